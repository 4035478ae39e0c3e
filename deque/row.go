package deque

import (
	"slices"

	"argosy/api"
)

// row is jobs from the top down, each with a stamp that nobody else has.
type row []api.Job

// cut tells the row up to a place, and from there on. The upper part is cut with its room: what is put behind it later goes not where the lower part lies.
func (r row) cut(at int) (upper, lower row) {
	return r[:at:at], r[at:]
}

// apart is the job with a stamp of its own.
func apart(j api.Job) api.Job {
	j.Stamp = slices.Clone(j.Stamp)
	return j
}
