package plan

import (
	"slices"

	"argosy/api"
)

// sagaOf tells a plan's saga. It panics with ErrArg, if the plan is not right: it is, if the saga that its items tell of has that plan.
func sagaOf(p api.Plan) api.Saga {
	mustHang(p.Items)
	g := api.Saga{Name: p.Items[0].Name, Alts: bodiesOf(p.Items, 0)}
	again, e := Make(g)
	must(e == api.OK && slices.EqualFunc(p.Items, again.Items, same), api.ErrArg)
	return g
}

// mustHang holds that items can be gone through from the saga on: each stands in one ahead of it, and leans on what is one of them. What may never be so many is bounded here, too, so that no more room is taken than a plan needs.
func mustHang(items []api.Item) {
	must(len(items) > 0 && len(items) <= api.MaxItems, api.ErrArg)
	for i, x := range items {
		must(x.In < i && x.Alts >= 0 && x.Alts <= api.MaxAlts && len(x.After) < api.MaxWidth, api.ErrArg)
		for _, on := range x.After {
			must(on >= 0 && on < len(items), api.ErrArg)
		}
	}
}

// bodiesOf tells an item's bodies, and all within them.
func bodiesOf(items []api.Item, in int) []api.Body {
	l := make([]api.Body, items[in].Alts)
	for i, x := range items {
		if x.In == in && x.Alt >= 0 && x.Alt < len(l) {
			l[x.Alt].Nodes = append(l[x.Alt].Nodes, nodeOf(items, i))
		}
	}
	return l
}

func nodeOf(items []api.Item, i int) api.Node {
	x := items[i]
	n := api.Node{Name: x.Name, Undo: x.Undo, Sub: x.Sub, Vital: x.Vital, Alts: bodiesOf(items, i)}
	for _, on := range x.After {
		n.After = append(n.After, items[on].Name)
	}
	return n
}

func same(a, b api.Item) bool {
	return a.Name == b.Name && a.Undo == b.Undo && a.Sub == b.Sub && a.Vital == b.Vital &&
		a.Alts == b.Alts && spotOf(a) == spotOf(b) && slices.Equal(a.After, b.After)
}
