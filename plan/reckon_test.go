package plan

import (
	"math/rand"
	"slices"
	"strconv"

	"argosy/api"
	"argosy/lex"
)

// What stands here reckons a second time, from the chapter's words, what the package under test answers. It goes other ways: a saga is held against the words node by node, a plan item by item, without the saga whose plan it is.

func saga(nodes ...api.Node) api.Saga     { return sagaOfBodies(body(nodes...)) }
func sagaOfBodies(l ...api.Body) api.Saga { return api.Saga{Name: "t", Alts: l} }
func body(nodes ...api.Node) api.Body     { return api.Body{Nodes: nodes} }
func step(name string, after ...string) api.Node {
	return api.Node{Name: name, Undo: "u", After: after}
}
func sub(name string, alts ...api.Body) api.Node {
	return api.Node{Name: name, Sub: true, Alts: alts}
}

// steps makes so many steps, of unlike names that begin so.
func steps(n int, begin string) []api.Node {
	var l []api.Node
	for i := range n {
		l = append(l, step(begin+strconv.Itoa(i)))
	}
	return l
}

// nest puts nodes so many sub-sagas deep.
func nest(deep int, nodes ...api.Node) []api.Node {
	for ; deep > 0; deep-- {
		nodes = []api.Node{sub("s"+strconv.Itoa(deep), body(nodes...))}
	}
	return nodes
}

func sameSaga(a, b api.Saga) bool {
	return a.Name == b.Name && slices.EqualFunc(a.Alts, b.Alts, sameBody)
}

func sameBody(a, b api.Body) bool { return slices.EqualFunc(a.Nodes, b.Nodes, sameNode) }

func sameNode(a, b api.Node) bool {
	return a.Name == b.Name && a.Undo == b.Undo && slices.Equal(a.After, b.After) && a.Sub == b.Sub && a.Vital == b.Vital && slices.EqualFunc(a.Alts, b.Alts, sameBody)
}

func samePlan(a, b api.Plan) bool { return slices.EqualFunc(a.Items, b.Items, sameItem) }

func sameItem(a, b api.Item) bool {
	return a.Name == b.Name && a.Undo == b.Undo && a.Sub == b.Sub && a.Vital == b.Vital && a.Alts == b.Alts && a.In == b.In && a.Alt == b.Alt && slices.Equal(a.After, b.After)
}

func copyOfSaga(g api.Saga) api.Saga { return api.Saga{Name: g.Name, Alts: copyOfBodies(g.Alts)} }

func copyOfBodies(l []api.Body) []api.Body {
	var out []api.Body
	for _, b := range l {
		var c api.Body
		for _, n := range b.Nodes {
			n.After = slices.Clone(n.After)
			n.Alts = copyOfBodies(n.Alts)
			c.Nodes = append(c.Nodes, n)
		}
		out = append(out, c)
	}
	return out
}

func copyOfPlan(p api.Plan) api.Plan {
	var out api.Plan
	for _, x := range p.Items {
		x.After = slices.Clone(x.After)
		out.Items = append(out.Items, x)
	}
	return out
}

func goodName(s string) bool { return lex.Name(s) && !lex.Word(s) }

// often tells how often a name stands in a list.
func often[E comparable](l []E, x E) int {
	n := 0
	for _, y := range l {
		if x == y {
			n++
		}
	}
	return n
}

// circle tells whether some number leans, by chains, on itself: those that lean on none that is left are taken away till none goes.
func circle(after map[int][]int) bool {
	left := map[int]bool{}
	for i := range after {
		left[i] = true
	}
	for {
		gone := 0
		for i := range left {
			if !slices.ContainsFunc(after[i], func(on int) bool { return left[on] }) {
				delete(left, i)
				gone++
			}
		}
		if gone == 0 {
			return len(left) > 0
		}
	}
}

// allNames tells the names of all nodes; it is asked only of sagas of a bounded depth.
func allNames(l []api.Body) []string {
	var names []string
	for _, b := range l {
		for _, n := range b.Nodes {
			names = append(names, n.Name)
			names = append(names, allNames(n.Alts)...)
		}
	}
	return names
}

// mayRun tells whether a saga may be run.
func mayRun(g api.Saga) bool {
	if !goodName(g.Name) || !bodiesMayRun(g.Alts, 1) {
		return false
	}
	names := allNames(g.Alts)
	for _, n := range names {
		if often(names, n) > 1 {
			return false
		}
	}
	return len(names) <= 63
}

func bodiesMayRun(l []api.Body, deep int) bool {
	if deep > 6 || len(l) < 1 || len(l) > 4 {
		return false
	}
	for _, b := range l {
		if len(b.Nodes) < 1 || len(b.Nodes) > 16 {
			return false
		}
		after := map[int][]int{}
		for i, n := range b.Nodes {
			after[i] = nil
			for _, on := range n.After {
				at := slices.IndexFunc(b.Nodes, func(m api.Node) bool { return m.Name == on })
				if at < 0 || at == i || often(n.After, on) > 1 {
					return false
				}
				after[i] = append(after[i], at)
			}
			if !nodeMayRun(n, deep) {
				return false
			}
		}
		if circle(after) {
			return false
		}
	}
	return true
}

func nodeMayRun(n api.Node, deep int) bool {
	if !goodName(n.Name) {
		return false
	}
	if n.Sub {
		return n.Undo == "" && bodiesMayRun(n.Alts, deep+1)
	}
	return goodName(n.Undo) && !n.Vital && len(n.Alts) == 0
}

// expectPlan tells the plan of a saga that may be run: by the places of the names in the row of all of them.
func expectPlan(g api.Saga) api.Plan {
	names := append([]string{""}, allNames(g.Alts)...)
	items := make([]api.Item, len(names))
	items[0] = api.Item{Name: g.Name, Sub: true, Vital: true, Alts: len(g.Alts), In: -1}
	var fill func(in int, l []api.Body)
	fill = func(in int, l []api.Body) {
		for alt, b := range l {
			for _, n := range b.Nodes {
				i := slices.Index(names[1:], n.Name) + 1
				items[i] = api.Item{Name: n.Name, Undo: n.Undo, Sub: n.Sub, Vital: n.Vital, Alts: len(n.Alts), In: in, Alt: alt}
				for _, on := range n.After {
					items[i].After = append(items[i].After, slices.Index(names[1:], on)+1)
				}
				fill(i, n.Alts)
			}
		}
	}
	fill(0, g.Alts)
	return api.Plan{Items: items}
}

// isRight tells whether a plan is right.
func isRight(p api.Plan) bool {
	if len(p.Items) < 2 || len(p.Items) > 64 {
		return false
	}
	top := p.Items[0]
	if !sameItem(top, api.Item{Name: top.Name, Sub: true, Vital: true, Alts: top.Alts, In: -1}) {
		return false
	}
	after := map[int][]int{}
	for i, x := range p.Items {
		after[i] = x.After
		if !isRightAlone(x) || i > 0 && !(standsWell(p, i) && leansWell(p, i)) || x.Sub && !isFilled(p, i) {
			return false
		}
		for _, y := range p.Items[1:max(i, 1)] {
			if x.Name == y.Name {
				return false
			}
		}
	}
	return !circle(after)
}

func isRightAlone(x api.Item) bool {
	if x.Sub {
		return goodName(x.Name) && x.Undo == "" && x.Alts >= 1 && x.Alts <= 4
	}
	return goodName(x.Name) && goodName(x.Undo) && !x.Vital && x.Alts == 0
}

// standsWell tells whether an item stands where it may behind the one ahead of it: as the first one within that; or as the next one in a saga in which that stands, in the same body or a later one.
func standsWell(p api.Plan, i int) bool {
	x, ahead, deep := p.Items[i], i-1, 1
	if x.In < 0 || x.In >= i || !p.Items[x.In].Sub || x.Alt < 0 || x.Alt >= p.Items[x.In].Alts {
		return false
	}
	for at := x.In; at > 0; at = p.Items[at].In {
		deep++
	}
	if x.Sub && deep > 5 {
		return false
	}
	if x.In == ahead {
		return x.Alt == 0
	}
	for ahead > 0 && p.Items[ahead].In != x.In {
		ahead = p.Items[ahead].In
	}
	return ahead > 0 && p.Items[ahead].Alt <= x.Alt
}

func leansWell(p api.Plan, i int) bool {
	x := p.Items[i]
	for _, on := range x.After {
		if on < 1 || on >= len(p.Items) || on == i || often(x.After, on) > 1 || p.Items[on].In != x.In || p.Items[on].Alt != x.Alt {
			return false
		}
	}
	return true
}

// isFilled tells whether each body of a saga has as many items as it may.
func isFilled(p api.Plan, s int) bool {
	for alt := range p.Items[s].Alts {
		if n := len(expectKids(p, s, alt)); n < 1 || n > 16 {
			return false
		}
	}
	return true
}

func expectKids(p api.Plan, in, alt int) []int {
	var l []int
	for i := 1; i < len(p.Items); i++ {
		if p.Items[i].In == in && p.Items[i].Alt == alt {
			l = append(l, i)
		}
	}
	return l
}

func expectAbove(p api.Plan, i int) []int {
	if i <= 0 || i >= len(p.Items) {
		return nil
	}
	return append([]int{p.Items[i].In}, expectAbove(p, p.Items[i].In)...)
}

// expectOver gathers those that lean on an item, or on one gathered, till none comes.
func expectOver(p api.Plan, i int) []int {
	var l []int
	for grown := true; grown; {
		grown = false
		for j, x := range p.Items {
			for _, on := range x.After {
				if (on == i || slices.Contains(l, on)) && !slices.Contains(l, j) {
					l, grown = append(l, j), true
				}
			}
		}
	}
	slices.Sort(l)
	return l
}

// maker makes sagas that may be run, of so many nodes at most.
type maker struct {
	*rand.Rand
	left, made int
}

func randomSaga(r *rand.Rand, most int) api.Saga {
	m := &maker{r, most, 0}
	return api.Saga{Name: []string{"t", "n1", "\u00fc"}[r.Intn(3)], Alts: m.bodies(1)}
}

// bodies makes bodies, of one node each at least. One node is taken ahead by who calls, so that there is always one left for the first body.
func (m *maker) bodies(deep int) []api.Body {
	m.left--
	l := make([]api.Body, 1)
	for len(l) < 4 && m.left > 0 && m.Intn(3) == 0 {
		m.left--
		l = append(l, api.Body{})
	}
	for i := range l {
		l[i].Nodes = append(l[i].Nodes, m.node(deep))
		for len(l[i].Nodes) < 16 && m.left > 0 && m.Intn(4) > 0 {
			m.left--
			l[i].Nodes = append(l[i].Nodes, m.node(deep))
		}
		m.lean(l[i].Nodes)
	}
	return l
}

func (m *maker) node(deep int) api.Node {
	m.made++
	n := api.Node{Name: "n" + strconv.Itoa(m.made)}
	if deep < 6 && m.left > 0 && m.Intn(3) == 0 {
		n.Sub, n.Vital, n.Alts = true, m.Intn(2) == 0, m.bodies(deep+1)
	} else {
		n.Undo = []string{"u", "t", n.Name, "n1"}[m.Intn(4)]
	}
	return n
}

// lean lets nodes lean on others that stand ahead of them in a row that is not that of the body.
func (m *maker) lean(l []api.Node) {
	row := m.Perm(len(l))
	for at, i := range row {
		for _, before := range m.Perm(at) {
			if m.Intn(3) == 0 {
				l[i].After = append(l[i].After, l[row[before]].Name)
			}
		}
	}
}

func randomSagas(seed int64, n, most int) []api.Saga {
	r := rand.New(rand.NewSource(seed))
	var l []api.Saga
	for ; n > 0; n-- {
		l = append(l, randomSaga(r, 1+r.Intn(most)))
	}
	return l
}
