package merge

import (
	"iter"
	"slices"

	"argosy/api"
	"argosy/stamp"
)

// rightCount tells whether a history may have so many branches.
func rightCount(n int) bool { return n >= 1 && n <= api.MaxWorkers }

// stands tells whether a list has such a place.
func stands(h []api.Event, i int) bool { return i >= 0 && i < len(h) }

// fresh is an event with a stamp of its own.
func fresh(e api.Event) api.Event {
	e.Stamp = slices.Clone(e.Stamp)
	return e
}

// isNext tells whether an event is next of a branch, the branches having had so many.
func isNext(had []int, e api.Event, i int) bool {
	// A stamp counts 0 behind its end: one of another length might pass for one of n counts.
	return len(e.Stamp) == len(had) && stamp.Next(had, e.Stamp, i)
}

// fronts tells, by branches, the event behind those that a branch has had; none of a branch that has had all.
func fronts(l [][]api.Event, had []int) iter.Seq2[int, api.Event] {
	return func(yield func(i int, e api.Event) bool) {
		for i, log := range l {
			if had[i] < len(log) && !yield(i, log[had[i]]) {
				return
			}
		}
	}
}

// merged tells the events of branches' logs as one history, each with its branch.
func merged(l [][]api.Event) iter.Seq2[int, api.Event] {
	return func(yield func(i int, e api.Event) bool) {
		had := make([]int, len(l))
	history:
		for {
			for i, e := range fronts(l, had) {
				if !isNext(had, e, i) {
					continue
				}
				if !yield(i, e) {
					break history
				}
				had[i]++
				// A lesser branch, passed over till now, may have waited for this event.
				continue history
			}
			break history
		}
	}
}

// parted tells a list's events, each with its branch, as far as they are a history.
func parted(h []api.Event, n int) iter.Seq2[int, api.Event] {
	return func(yield func(i int, e api.Event) bool) {
		had := make([]int, n)
	history:
		for _, e := range h {
			for i := range had {
				if !isNext(had, e, i) {
					continue
				}
				if !yield(i, e) {
					break history
				}
				had[i]++
				continue history
			}
			break history
		}
	}
}
