package branch

import (
	"iter"

	"argosy/api"
	"argosy/disk"
	"argosy/event"
	"argosy/frame"
	"argosy/stamp"
)

// frames tells the bodies of the frames from the first byte on, each with the place behind its frame.
func frames(b []byte) iter.Seq2[[]byte, int] {
	return func(yield func(body []byte, end int) bool) {
		at := 0
		for {
			body, end, e := frame.Take(b, at)
			if e != api.OK || !yield(body, end) {
				return
			}
			at = end
		}
	}
}

// whole tells the events of what is whole of a branch's log, each with the place behind its frame; none, if there is no such branch.
func whole(d *disk.Disk, i int) iter.Seq2[api.Event, int] {
	return func(yield func(e api.Event, end int) bool) {
		if !has(d, i) {
			return
		}
		count := 0
		for body, end := range frames(d.Read(i)) {
			count++
			e, fault := event.Read(body)
			belongs := fault == api.OK && len(e.Stamp) == branches(d) && stamp.At(e.Stamp, i) == count
			if !belongs || !yield(e, end) {
				return
			}
		}
	}
}
