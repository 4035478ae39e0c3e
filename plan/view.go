package plan

import (
	"iter"
	"slices"

	"argosy/api"
	"argosy/dag"
)

// View is a plan that is looked at: of each item the body in which it stands, and the items that lean on it.
type View struct {
	spots []spot
	over  [][]int
}

// See looks at a plan.
func See(p api.Plan) (*View, api.Errno) {
	if !Right(p) {
		return nil, api.ErrArg
	}
	v := &View{}
	for _, x := range p.Items {
		v.spots = append(v.spots, spotOf(x))
	}
	// Turned round, a chain leads to an item from those that lean on it.
	v.over, _ = dag.Reach(len(p.Items), dag.Turn(arcs(p.Items)))
	return v, api.OK
}

// Kids tells which items stand in a body.
func (v *View) Kids(in, alt int) []int {
	// The saga itself stands in -1, which is no item.
	if !v.has(in) {
		return nil
	}
	return slices.Collect(v.within(spot{in, alt}))
}

// Above tells in what an item stands.
func (v *View) Above(i int) []int {
	if !v.has(i) {
		return nil
	}
	var l []int
	for i > 0 {
		i = v.spots[i].in
		l = append(l, i)
	}
	return l
}

// Over tells which items lean on one.
func (v *View) Over(i int) []int {
	if !v.has(i) {
		return nil
	}
	return slices.Clone(v.over[i])
}

// has tells whether there is such an item. Of no view, and of one that See did not make, there is none.
func (v *View) has(i int) bool { return v != nil && i >= 0 && i < len(v.spots) }

// within tells the items that stand in a body.
func (v *View) within(body spot) iter.Seq[int] {
	return func(yield func(i int) bool) {
		for i, s := range v.spots {
			if s == body && !yield(i) {
				return
			}
		}
	}
}
