package trace

import (
	"iter"
	"math"
	"slices"

	"argosy/api"
	"argosy/plan"
)

// never is the place of what is nowhere in a trace: behind all others, so that each place is ahead of it.
const never = math.MaxInt

// fromBehind tells the places of effects, the last one first, each with the place at which its key stands next behind it.
func fromBehind(l []api.Effect) iter.Seq2[int, int] {
	return func(yield func(at, next int) bool) {
		met := map[api.Key]int{}
		for at, x := range slices.Backward(l) {
			next, isMet := met[x.Key]
			if !isMet {
				next = never
			}
			if !yield(at, next) {
				return
			}
			met[x.Key] = at
		}
	}
}

// spots are the places at which something was done first and last, and at which it first went well.
type spots struct{ first, well, last int }

// deeds are the spots of steps, and of their undoings, all tries of one together: by keys of the try 0.
type deeds map[api.Key]spots

func deedsOf(l []api.Effect) deeds {
	d := deeds{}
	for at, x := range slices.Backward(l) {
		k := api.Key{Item: x.Key.Item, Undo: x.Key.Undo}
		s, isMet := d[k]
		if !isMet {
			s = spots{well: never, last: at}
		}
		s.first = at
		if x.Ok {
			s.well = at
		}
		d[k] = s
	}
	return d
}

func (d deeds) step(i int) spots    { return d.of(api.Key{Item: i}) }
func (d deeds) undoing(i int) spots { return d.of(api.Key{Item: i, Undo: true}) }

func (d deeds) of(k api.Key) spots {
	if s, isMet := d[k]; isMet {
		return s
	}
	return spots{never, never, never}
}

// isUndoneAmiss tells whether a step was undone ahead of being done, or when it was undone.
func (d deeds) isUndoneAmiss(i int) bool {
	undo := d.undoing(i)
	return undo.first < d.step(i).well || undo.well < undo.last
}

// isUndoneEarly tells whether a step was undone ahead of one that leans on it, or that stands in what does.
func (d deeds) isUndoneEarly(v *plan.View, i int) bool {
	undo := d.undoing(i)
	if undo.well == never {
		return false
	}
	over := v.Over(i)
	leans := func(on int) bool { return slices.Contains(over, on) }
	for k, s := range d {
		isLater := k.Undo && s.well != never && undo.first < s.well
		if isLater && (leans(k.Item) || slices.ContainsFunc(v.Above(k.Item), leans)) {
			return true
		}
	}
	return false
}

// isStep tells whether a plan has such an item, and it is a step.
func isStep(items []api.Item, i int) bool {
	return i >= 0 && i < len(items) && !items[i].Sub
}
