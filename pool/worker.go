package pool

import (
	"slices"

	"argosy/api"
	"argosy/deque"
)

// worker is jobs that wait, and perhaps one that is held.
type worker struct {
	jobs *deque.Deque
	held *api.Job // nil: none
}

// hold lets the worker hold a job, in the place of what it held.
func (x *worker) hold(j api.Job) {
	j = apart(j)
	x.held = &j
}

// give takes the job that the worker holds.
func (x *worker) give() (api.Job, api.Errno) {
	if x.held == nil {
		return api.Job{}, api.ErrNone
	}
	j := *x.held
	x.held = nil
	return j, api.OK
}

// steal takes the highest job that waits.
func (x *worker) steal() (api.Job, api.Errno) { return x.jobs.Steal() }

// count tells how many jobs the worker has.
func (x *worker) count() int {
	if x.held == nil {
		return x.jobs.Len()
	}
	return x.jobs.Len() + 1
}

// apart is the job with a stamp of its own: what a worker holds is turned by nobody who hands a job in, or is told one.
func apart(j api.Job) api.Job {
	j.Stamp = slices.Clone(j.Stamp)
	return j
}
