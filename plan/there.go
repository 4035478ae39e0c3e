package plan

import (
	"iter"
	"slices"

	"argosy/api"
	"argosy/dag"
	"argosy/syntax"
)

// spot is a body: that of the item in, at its place there.
type spot struct{ in, alt int }

// placed is a node, and the body in which it stands.
type placed struct {
	api.Node
	spot
}

// nodes tells all nodes of an item's bodies by their numbers, in the order of the text: a node's own bodies come right behind it, so they are numbered from it on.
func nodes(in int, bodies []api.Body) iter.Seq2[int, placed] {
	return func(yield func(i int, n placed) bool) {
		last := in
		for alt, b := range bodies {
			for _, n := range b.Nodes {
				last++
				if !yield(last, placed{n, spot{in, alt}}) {
					return
				}
				for i, within := range nodes(last, n.Alts) {
					last = i
					if !yield(i, within) {
						return
					}
				}
			}
		}
	}
}

// planOf tells a saga's plan. It panics with ErrReject, if the saga may not be run.
func planOf(g api.Saga) api.Plan {
	mustFit(g)
	items := []api.Item{{Name: g.Name, Sub: true, Vital: true, Alts: len(g.Alts), In: -1}}
	numbers := map[string]int{}
	for i, n := range nodes(0, g.Alts) {
		_, twice := numbers[n.Name]
		must(!twice, api.ErrReject)
		numbers[n.Name] = i
		items = append(items, itemOf(n))
	}
	// Behind all items, since a node may lean on one that comes later.
	for i, n := range nodes(0, g.Alts) {
		items[i].After = leanings(n, items, numbers)
	}
	_, e := dag.Order(len(items), arcs(items))
	must(e == api.OK, api.ErrReject)
	return api.Plan{Items: items}
}

// mustFit holds that a saga is right, and within the limits. Whether it is right comes first: of others it is not known that they can be gone through.
func mustFit(g api.Saga) {
	must(syntax.Check(g) == api.OK, api.ErrReject)
	must(syntax.Depth(g) <= api.MaxDepth, api.ErrReject)
	// The saga itself is an item, too.
	must(syntax.Count(g) < api.MaxItems, api.ErrReject)
	mustFitBodies(g.Alts)
	for _, n := range nodes(0, g.Alts) {
		mustFitBodies(n.Alts)
	}
}

func mustFitBodies(l []api.Body) {
	must(len(l) <= api.MaxAlts, api.ErrReject)
	for _, b := range l {
		must(len(b.Nodes) > 0 && len(b.Nodes) <= api.MaxWidth, api.ErrReject)
	}
}

// itemOf tells a node's item, but for what it leans on.
func itemOf(n placed) api.Item {
	must(n.Sub || n.Undo != "", api.ErrReject)
	return api.Item{
		Name:  n.Name,
		Undo:  n.Undo,
		Sub:   n.Sub,
		Vital: n.Vital,
		Alts:  len(n.Alts),
		In:    n.in,
		Alt:   n.alt,
	}
}

// leanings tells the numbers of the nodes on which one leans. That a node leans on itself is left to be told as a circle.
func leanings(n placed, items []api.Item, numbers map[string]int) []int {
	var l []int
	for _, name := range n.After {
		on, there := numbers[name]
		must(there && spotOf(items[on]) == n.spot && !slices.Contains(l, on), api.ErrReject)
		l = append(l, on)
	}
	return l
}

func spotOf(x api.Item) spot { return spot{x.In, x.Alt} }

// arcs tells what items lean on, as arcs.
func arcs(items []api.Item) []api.Arc {
	var l []api.Arc
	for i, x := range items {
		for _, on := range x.After {
			l = append(l, api.Arc{From: on, To: i})
		}
	}
	return l
}
