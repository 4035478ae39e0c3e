package cause

import (
	"iter"
	"slices"

	"argosy/api"
	"argosy/plan"
)

// steps goes through a plan's steps that are meant, rising.
func steps(p api.Plan, isMeant func(i int) bool) iter.Seq[int] {
	return func(yield func(i int) bool) {
		for i, x := range p.Items {
			if !x.Sub && isMeant(i) && !yield(i) {
				return
			}
		}
	}
}

// causing tells what asks whether a step is a cause of a key; false: the plan is not right, or the key's item no step of it, and so none is.
func causing(p api.Plan, k api.Key) (isCause func(i int) bool, ok bool) {
	v, e := plan.See(p)
	if e != api.OK || k.Item < 0 || k.Item >= len(p.Items) || p.Items[k.Item].Sub {
		return func(int) bool { return false }, false
	}
	own := chain(v, k.Item)
	// Who stands in a saga has that in its chain: so what is asked of the chains holds through other sagas, too.
	return func(i int) bool {
		return slices.ContainsFunc(chain(v, i), func(x int) bool {
			return slices.ContainsFunc(own, func(of int) bool { return isMet(p, x, of, k.Undo) })
		})
	}, true
}

// chain tells a step and the sagas in which it stands, but 0.
func chain(v *plan.View, i int) []int {
	above := v.Above(i)
	return append([]int{i}, above[:len(above)-1]...)
}

// isMet tells, of two items, whether the first one must be known for the second one's sake: to undo something that stands in the second one, or is it, or else to begin that.
func isMet(p api.Plan, x, of int, undo bool) bool {
	a, b := p.Items[x], p.Items[of]
	switch {
	case a.In != b.In:
		return false
	case undo:
		return a.Alt == b.Alt
	}
	return a.Alt < b.Alt || slices.Contains(b.After, x)
}
