package plan

import (
	"math"
	"math/rand"
	"slices"
	"strconv"
	"strings"
	"testing"

	"argosy/api"
	"argosy/dag"
	"argosy/syntax"
)

const whole = "saga t { ( step a undo u after c ; step c undo a ; vital sub s after a , c { ( step e undo u ; ) or ( step h undo u after j ; loose sub i after h , j { ( step k undo u ; ) } step j undo u ; ) } step z undo u after s ; ) or ( loose sub l { ( step m undo u ; ) } step o undo u after l ; step q undo u ; step r undo u after q ; ) }"

func read(t *testing.T, s string) api.Saga {
	t.Helper()
	g, at, e := syntax.Read(s)
	if e != api.OK {
		t.Fatal(s, at, int(e))
	}
	return g
}

func planned(t *testing.T, g api.Saga) api.Plan {
	t.Helper()
	p, e := Make(g)
	if e != api.OK {
		t.Fatal(g, int(e))
	}
	return p
}

// hold holds Check and Make of a saga against what the words say, and all else of its plan, if it has one.
func hold(t *testing.T, g api.Saga) {
	t.Helper()
	p, e := Make(g)
	if !mayRun(g) {
		if e != api.ErrReject || len(p.Items) != 0 || Check(g) != api.ErrReject {
			t.Fatalf("%v: %v, %d, %d; it may not be run", g, p, int(e), int(Check(g)))
		}
		return
	}
	if e != api.OK || Check(g) != api.OK || !samePlan(p, expectPlan(g)) {
		t.Fatalf("%v: %v, %d, %d; want %v", g, p, int(e), int(Check(g)), expectPlan(g))
	}
	holdPlan(t, p)
	if h, _ := Back(p); !sameSaga(g, h) {
		t.Fatalf("%v: back %v", g, h)
	}
}

// holdPlan holds all that is asked of a plan against what the words say.
func holdPlan(t *testing.T, p api.Plan) {
	t.Helper()
	if !isRight(p) {
		wrong(t, p)
		return
	}
	g, e := Back(p)
	if again, f := Make(g); e != api.OK || !Right(p) || f != api.OK || !samePlan(p, again) {
		t.Fatalf("%v: back %v, %d, %d", p, g, int(e), int(f))
	}
	v, e := See(p)
	if e != api.OK || v == nil {
		t.Fatalf("%v: %d", p, int(e))
	}
	for i := -2; i < len(p.Items)+2; i++ {
		if a, b := Above(p, i), v.Above(i); !slices.Equal(a, expectAbove(p, i)) || !slices.Equal(b, a) {
			t.Fatalf("%v: above %d: %v, %v", p, i, a, b)
		}
		if a, b := Over(p, i), v.Over(i); !slices.Equal(a, expectOver(p, i)) || !slices.Equal(b, a) {
			t.Fatalf("%v: over %d: %v, %v", p, i, a, b)
		}
		for alt := -1; alt < 5; alt++ {
			if a, b := Kids(p, i, alt), v.Kids(i, alt); !slices.Equal(a, expectKids(p, i, alt)) || !slices.Equal(b, a) {
				t.Fatalf("%v: kids %d %d: %v, %v", p, i, alt, a, b)
			}
		}
	}
}

// wrong holds that a plan is not right, and that nothing is told of it.
func wrong(t *testing.T, p api.Plan) {
	t.Helper()
	g, e := Back(p)
	v, f := See(p)
	if e != api.ErrArg || f != api.ErrArg || v != nil || Right(p) || !sameSaga(g, api.Saga{}) {
		t.Fatalf("%v is not right: %v, %d, %d, %v", p, g, int(e), int(f), Right(p))
	}
	for i := -1; i < 4; i++ {
		if len(Kids(p, i, 0))+len(Kids(p, i, 1))+len(Above(p, i))+len(Over(p, i)) != 0 {
			t.Fatalf("%v is not right: %v, %v, %v of %d", p, Kids(p, i, 0), Above(p, i), Over(p, i), i)
		}
	}
}

func TestExamples(t *testing.T) {
	p := planned(t, read(t, "saga t { ( step a undo b ; loose sub c after a { ( step d undo e ; ) } ) }"))
	want := api.Plan{Items: []api.Item{
		{Name: "t", Sub: true, Vital: true, Alts: 1, In: -1},
		{Name: "a", Undo: "b", In: 0},
		{Name: "c", Sub: true, Alts: 1, In: 0, After: []int{1}},
		{Name: "d", Undo: "e", In: 2},
	}}
	if !samePlan(p, want) || !Right(want) {
		t.Error(p)
	}
	if !slices.Equal(Kids(p, 2, 0), []int{3}) || !slices.Equal(Above(p, 3), []int{2, 0}) || !slices.Equal(Over(p, 1), []int{2}) {
		t.Error(Kids(p, 2, 0), Above(p, 3), Over(p, 1))
	}
	if p, e := Make(read(t, "saga t { ( step a ; ) }")); e != api.ErrReject || len(p.Items) != 0 {
		t.Error(p, int(e))
	}
	if e := Check(read(t, "saga t { ( step a ; ) }")); e != api.ErrReject {
		t.Error(int(e))
	}
	// The whole document's first example.
	if e := Check(read(t, "saga t { ( step a undo b ; ) }")); e != api.OK {
		t.Error(int(e))
	}
}

// P5.1
func TestMake(t *testing.T) {
	g := read(t, whole)
	p := planned(t, g)
	want := api.Plan{Items: []api.Item{
		{Name: "t", Sub: true, Vital: true, Alts: 2, In: -1},
		{Name: "a", Undo: "u", After: []int{2}},
		{Name: "c", Undo: "a"},
		{Name: "s", Sub: true, Vital: true, Alts: 2, After: []int{1, 2}},
		{Name: "e", Undo: "u", In: 3},
		{Name: "h", Undo: "u", In: 3, Alt: 1, After: []int{8}},
		{Name: "i", Sub: true, Alts: 1, In: 3, Alt: 1, After: []int{5, 8}},
		{Name: "k", Undo: "u", In: 6},
		{Name: "j", Undo: "u", In: 3, Alt: 1},
		{Name: "z", Undo: "u", After: []int{3}},
		{Name: "l", Sub: true, Alts: 1, Alt: 1},
		{Name: "m", Undo: "u", In: 10},
		{Name: "o", Undo: "u", Alt: 1, After: []int{10}},
		{Name: "q", Undo: "u", Alt: 1},
		{Name: "r", Undo: "u", Alt: 1, After: []int{13}},
	}}
	if !samePlan(p, want) {
		t.Error(p)
	}
	hold(t, g)
}

// P5.1: each of these may be run.
func TestMayRun(t *testing.T) {
	wide := steps(16, "a")
	for i := range wide[1:] {
		wide[i].After = []string{wide[i+1].Name}
	}
	all := steps(16, "a")
	for i, n := range all {
		for _, m := range all[:i] {
			n.After = append(n.After, m.Name)
		}
		all[i] = n
	}
	for name, g := range map[string]api.Saga{
		"one step":                    saga(step("a")),
		"16 nodes":                    saga(steps(16, "a")...),
		"16 nodes of a second body":   sagaOfBodies(body(step("b")), body(steps(16, "a")...)),
		"16 nodes of a sub-saga":      saga(sub("s", body(steps(16, "a")...))),
		"4 bodies":                    sagaOfBodies(body(step("a")), body(step("b")), body(step("c")), body(step("d"))),
		"4 bodies of a sub-saga":      saga(sub("s", body(step("a")), body(step("b")), body(step("c")), body(step("d")))),
		"63 nodes":                    sagaOfBodies(body(steps(16, "a")...), body(steps(16, "b")...), body(steps(16, "c")...), body(steps(15, "d")...)),
		"6 deep":                      saga(nest(5, step("a"))...),
		"6 deep in the second body":   sagaOfBodies(body(step("b")), body(append(nest(5, step("a")), step("c"))...)),
		"a node of the saga's name":   saga(step("t"), sub("s", body(step("a", "b"), step("b")))),
		"Undo is a node's name":       saga(api.Node{Name: "a", Undo: "b"}, api.Node{Name: "b", Undo: "b"}, api.Node{Name: "c", Undo: "t"}),
		"a vital sub-saga":            saga(api.Node{Name: "s", Sub: true, Vital: true, Alts: []api.Body{body(step("a"))}}),
		"leaning on one ahead":        saga(step("a"), step("b", "a")),
		"leaning on one behind":       saga(step("a", "b"), step("b")),
		"leaning on a sub-saga":       saga(step("a", "s"), sub("s", body(step("b")))),
		"leaning in a row":            saga(wide...),
		"leaning on all ahead":        saga(all...),
		"leaning on two ways":         saga(step("a"), step("b", "a"), step("c", "a"), step("d", "c", "b")),
		"empty lists":                 {Name: "t", Alts: []api.Body{{Nodes: []api.Node{{Name: "a", Undo: "u", After: []string{}, Alts: []api.Body{}}}}}},
		"names of other letters":      saga(api.Node{Name: "\u00fc", Undo: "\u00e9", After: []string{"_1"}}, step("_1")),
		"a name of 24 bytes":          saga(step(strings.Repeat("x", 24))),
		"names that only begin alike": saga(step("a"), step("a1", "a"), step("A", "a1")),
	} {
		if !mayRun(g) {
			t.Fatal(name, "may be run")
		}
		t.Run(name, func(t *testing.T) { hold(t, g) })
	}
}

// P5.1: none of these may be run.
func TestMayNotRun(t *testing.T) {
	undo := func(n api.Node, undo string) api.Node { n.Undo = undo; return n }
	after := func(n api.Node, l ...string) api.Node { n.After = l; return n }
	vital := func(n api.Node) api.Node { n.Vital = true; return n }
	ring := steps(16, "a")
	for i := range ring {
		ring[i].After = []string{ring[(i+1)%16].Name}
	}
	for name, l := range map[string][]api.Saga{
		"nothing":             {{}, {Name: "t"}, {Name: "t", Alts: []api.Body{}}, {Alts: []api.Body{body(step("a"))}}},
		"a saga's name":       {{Name: "or", Alts: []api.Body{body(step("a"))}}, {Name: "1", Alts: []api.Body{body(step("a"))}}, {Name: "a b", Alts: []api.Body{body(step("a"))}}},
		"a node's name":       {saga(step("")), saga(step("saga")), saga(step("a b")), saga(step("\xff")), saga(sub("sub", body(step("a")))), saga(sub("s", body(step("or")))), saga(step(strings.Repeat("x", 25)))},
		"an Undo":             {saga(undo(step("a"), "undo")), saga(undo(step("a"), "{")), saga(undo(step("a"), " ")), saga(undo(step("a"), strings.Repeat("x", 25)))},
		"a sub-saga's Undo":   {saga(undo(sub("s", body(step("a"))), "u"))},
		"a vital step":        {saga(vital(step("a")))},
		"a step's bodies":     {saga(api.Node{Name: "a", Undo: "u", Alts: []api.Body{body(step("b"))}}), saga(api.Node{Name: "a", Undo: "u", Alts: []api.Body{{}}})},
		"no bodies":           {saga(sub("s")), saga(step("a"), sub("s", body(sub("r"))))},
		"7 deep":              {saga(nest(6, step("a"))...), sagaOfBodies(body(step("b")), body(append(nest(6, step("a")), step("c"))...)), saga(nest(69, step("a"))...)},
		"71 deep and more":    {saga(nest(70, step("a"))...), saga(nest(20000, step("a"))...)},
		"64 nodes":            {sagaOfBodies(body(steps(16, "a")...), body(steps(16, "b")...), body(steps(16, "c")...), body(steps(16, "d")...)), saga(append(steps(15, "e"), sub("s", body(steps(16, "a")...), body(steps(16, "b")...), body(steps(16, "c")...)))...)},
		"1001 nodes":          {saga(steps(1001, "a")...)},
		"5 bodies":            {sagaOfBodies(body(step("a")), body(step("b")), body(step("c")), body(step("d")), body(step("e"))), saga(sub("s", body(step("a")), body(step("b")), body(step("c")), body(step("d")), body(step("e"))))},
		"0 nodes":             {saga(), sagaOfBodies(body(step("a")), body()), sagaOfBodies(body(), body(step("a"))), saga(sub("s", body())), saga(step("a"), sub("s", body(step("b")), body()))},
		"17 nodes":            {saga(steps(17, "a")...), sagaOfBodies(body(step("b")), body(steps(17, "a")...)), saga(sub("s", body(steps(17, "a")...)))},
		"twice in one body":   {saga(step("a"), step("a")), saga(step("a"), sub("a", body(step("b")))), saga(step("a"), step("b"), step("c", "b"), step("a"))},
		"twice in two bodies": {sagaOfBodies(body(step("a")), body(step("a"))), saga(sub("s", body(step("a"))), sub("r", body(step("a")))), saga(sub("s", body(step("a")), body(step("b"), step("a")))), sagaOfBodies(body(sub("s", body(step("a")))), body(step("a")))},
		"one in the other":    {saga(sub("a", body(step("a")))), saga(sub("s", body(sub("r", body(step("s")))))), saga(step("a"), sub("s", body(step("a"))))},
		"no undo":             {saga(undo(step("a"), "")), saga(step("b"), undo(step("a"), "")), saga(sub("s", body(undo(step("a"), "")))), sagaOfBodies(body(step("b")), body(undo(step("a"), "")))},
		"leaning on itself":   {saga(step("a", "a")), saga(step("b"), step("a", "b", "a")), saga(after(sub("s", body(step("a"))), "s"))},
		"on another body":     {sagaOfBodies(body(step("a")), body(step("b", "a"))), sagaOfBodies(body(step("a", "b")), body(step("b"))), saga(step("a"), sub("s", body(step("b", "a")))), saga(sub("s", body(step("b"))), step("a", "b")), saga(sub("s", body(step("b"))), sub("r", body(step("a", "b")))), saga(sub("s", body(step("b")), body(step("a", "b"))))},
		"on what it is in":    {saga(sub("s", body(step("a", "s")))), saga(after(sub("s", body(step("a"))), "a"))},
		"on the saga":         {saga(step("a", "t")), saga(sub("s", body(step("a", "t"))))},
		"on none":             {saga(step("a", "z")), saga(step("a"), step("b", "a", "z")), saga(step("a", "u")), saga(step("a", "")), saga(step("a", "or"))},
		"on one twice":        {saga(step("a"), step("b", "a", "a")), saga(step("a"), step("c"), step("b", "a", "c", "a")), saga(sub("s", body(step("b", "a", "a"), step("a"))))},
		"a circle of two":     {saga(step("a", "b"), step("b", "a")), saga(step("a", "s"), after(sub("s", body(step("b"))), "a")), saga(sub("s", body(step("a", "b"), step("b", "a")))), sagaOfBodies(body(step("c")), body(step("a", "b"), step("b", "a")))},
		"a circle of many":    {saga(step("a", "c"), step("b", "a"), step("c", "b")), saga(ring...), saga(step("a"), step("b", "a", "d"), step("c", "b"), step("d", "c")), saga(sub("s", body(ring...)))},
	} {
		t.Run(name, func(t *testing.T) {
			for _, g := range l {
				if mayRun(g) {
					t.Fatal(g, "may not be run")
				}
				hold(t, g)
			}
		})
	}
}

// P5.1: a saga that is greater than its memory, since what is within one stands in many places, or in itself, is answered for, too.
func TestEndlessSagas(t *testing.T) {
	l := []api.Body{body(step("a"))}
	for range 100 {
		l = []api.Body{body(sub("s", l...), sub("r", l...))}
	}
	ring := []api.Body{body(sub("s"), step("a"))}
	ring[0].Nodes[0].Alts = ring
	broad := slices.Repeat([]api.Body{body(step("a"))}, 100000)
	long := slices.Repeat([]string{"a"}, 1000000)
	for _, g := range []api.Saga{
		{Name: "t", Alts: l},
		{Name: "t", Alts: ring},
		{Name: "t", Alts: broad},
		saga(step("a"), sub("s", broad...)),
		saga(step("a"), step("b", long...)),
		saga(slices.Repeat([]api.Node{step("a")}, 1000000)...),
		{Name: "t", Alts: make([]api.Body, 1000000)},
		saga(slices.Repeat([]api.Node{sub("s", make([]api.Body, 1000)...)}, 1000)...),
	} {
		if p, e := Make(g); e != api.ErrReject || len(p.Items) != 0 || Check(g) != api.ErrReject {
			t.Error(len(p.Items), int(e))
		}
	}
}

// places tells all nodes of a saga, so that they can be turned.
func places(l []api.Body) []*api.Node {
	var out []*api.Node
	for i := range l {
		for j := range l[i].Nodes {
			out = append(out, &l[i].Nodes[j])
			out = append(out, places(l[i].Nodes[j].Alts)...)
		}
	}
	return out
}

// turn makes something of a saga otherwise; often, but not always, it may not be run then.
func turn(r *rand.Rand, g *api.Saga) {
	all := places(g.Alts)
	n, m := all[r.Intn(len(all))], all[r.Intn(len(all))]
	alts := &g.Alts
	if n.Sub {
		alts = &n.Alts
	}
	b := &(*alts)[r.Intn(len(*alts))]
	switch r.Intn(12) {
	case 0:
		n.Name = m.Name
	case 1:
		n.After = append(n.After, m.Name)
	case 2, 3:
		if i := slices.IndexFunc(b.Nodes, func(x api.Node) bool { return x.Name == n.Name }); i < 0 && len(b.Nodes) > 1 {
			b.Nodes[0].After = append(b.Nodes[0].After, b.Nodes[len(b.Nodes)-1].Name)
		} else {
			n.After = append(n.After, b.Nodes[r.Intn(len(b.Nodes))].Name)
		}
	case 4:
		n.Undo = []string{"", "u", "or"}[r.Intn(3)]
	case 5:
		n.Vital = !n.Vital
	case 6:
		n.Sub = !n.Sub
	case 7:
		*alts = append(*alts, body(steps(r.Intn(3), "x")...))
	case 8:
		b.Nodes = append(b.Nodes, steps(r.Intn(10), "y")...)
	case 9:
		b.Nodes = b.Nodes[:len(b.Nodes)-1]
	case 10:
		n.Name = []string{"", "x9", "vital", g.Name}[r.Intn(4)]
	case 11:
		b.Nodes = append(b.Nodes, nest(r.Intn(5), step("z"))...)
	}
}

// P5.1, P5.2, P5.3, P5.6 of sagas as they come, and of the same ones turned.
func TestSomeSagas(t *testing.T) {
	r := rand.New(rand.NewSource(5))
	run, refused := 0, 0
	for _, g := range slices.Concat(randomSagas(51, 250, 14), randomSagas(52, 8, 63)) {
		if !mayRun(g) {
			t.Fatal(g)
		}
		hold(t, g)
		for range 10 {
			h := copyOfSaga(g)
			turn(r, &h)
			hold(t, h)
			if mayRun(h) {
				run++
			} else {
				refused++
			}
		}
	}
	if run < 500 || refused < 500 {
		t.Error(run, refused)
	}
}

// P5.2: one thing of a plan turned.
func TestTurnedPlans(t *testing.T) {
	p := planned(t, read(t, whole))
	n := len(p.Items)
	numbers := []int{math.MinInt, -2, -1, 0, 1, 2, 3, 4, 5, 6, 7, 8, 9, 10, 13, n - 1, n, n + 1, 64, 1 << 40, math.MaxInt}
	for i := range p.Items {
		for _, x := range numbers {
			turns := []func(*api.Item){
				func(it *api.Item) { it.In = x },
				func(it *api.Item) { it.Alt = x },
				func(it *api.Item) { it.Alts = x },
				func(it *api.Item) { it.After = append(it.After, x) },
				func(it *api.Item) { it.After = []int{x} },
				func(it *api.Item) { it.After = append([]int{x}, it.After...) },
			}
			for _, turn := range turns {
				q := copyOfPlan(p)
				turn(&q.Items[i])
				holdPlan(t, q)
			}
		}
		for _, s := range []string{"", "or", "1", "a b", "\xff", "t", "a", "s", "m", "fresh"} {
			q := copyOfPlan(p)
			q.Items[i].Name = s
			holdPlan(t, q)
			q = copyOfPlan(p)
			q.Items[i].Undo = s
			holdPlan(t, q)
		}
		for _, turn := range []func(*api.Item){
			func(it *api.Item) { it.Sub = !it.Sub },
			func(it *api.Item) { it.Vital = !it.Vital },
			func(it *api.Item) { it.Sub, it.Undo, it.Alts = true, "", 1 },
			func(it *api.Item) { it.Sub, it.Undo, it.Alts, it.Vital = false, "u", 0, false },
			func(it *api.Item) { it.After = nil },
			func(it *api.Item) { slices.Reverse(it.After) },
		} {
			q := copyOfPlan(p)
			turn(&q.Items[i])
			holdPlan(t, q)
		}
	}
}

// P5.2: items in another order, one too many, one too few.
func TestOtherItems(t *testing.T) {
	p := planned(t, read(t, whole))
	for i := range p.Items {
		for j := range p.Items {
			q := copyOfPlan(p)
			q.Items[i], q.Items[j] = q.Items[j], q.Items[i]
			// Two that stand side by side may change places: that is another saga's plan.
			holdPlan(t, q)
			if a, b := p.Items[i], p.Items[j]; a.In != b.In || a.Alt != b.Alt {
				wrong(t, q)
			}
			q = copyOfPlan(p)
			q.Items = slices.Insert(q.Items, i, p.Items[j])
			wrong(t, q)
		}
		q := copyOfPlan(p)
		q.Items = slices.Delete(q.Items, i, i+1)
		holdPlan(t, q)
		q.Items = q.Items[:i]
		holdPlan(t, q)
		for _, x := range []api.Item{{}, {Name: "x", Undo: "u"}, {Name: "x", Undo: "u", In: i}, {Name: "x", Undo: "u", In: i, Alt: 1}, {Name: "x", Sub: true, Alts: 1, Alt: 1}} {
			q := copyOfPlan(p)
			q.Items = append(q.Items, x)
			holdPlan(t, q)
		}
	}
	// The last one, in the last body, may go, and another one may stand there: those are other sagas' plans.
	q := copyOfPlan(p)
	q.Items = q.Items[:len(q.Items)-1]
	if !Right(q) {
		t.Error(q)
	}
	q.Items = append(q.Items, api.Item{Name: "x", Undo: "u", Alt: 1})
	if !Right(q) {
		t.Error(q)
	}
}

// P5.2, P5.3, P5.6
func TestNoItems(t *testing.T) {
	wrong(t, api.Plan{})
	wrong(t, api.Plan{Items: []api.Item{}})
	wrong(t, api.Plan{Items: make([]api.Item, 1)})
	wrong(t, api.Plan{Items: []api.Item{{Name: "t", Sub: true, Vital: true, In: -1}}})
	wrong(t, api.Plan{Items: []api.Item{{Name: "t", Sub: true, Vital: true, Alts: 1, In: -1}}})
	wrong(t, api.Plan{Items: []api.Item{{Name: "a", Undo: "u"}}})
	wrong(t, api.Plan{Items: make([]api.Item, 64)})
	wrong(t, api.Plan{Items: make([]api.Item, 1000000)})
}

// P5.2: 64 items, and 65; 16 in a body, and 17; 6 deep, and 7; 4 bodies, and 5.
func TestGreatPlans(t *testing.T) {
	flat := func(bodies, width int) api.Plan {
		p := api.Plan{Items: []api.Item{{Name: "t", Sub: true, Vital: true, Alts: bodies, In: -1}}}
		for i := range bodies * width {
			p.Items = append(p.Items, api.Item{Name: "a" + strconv.Itoa(i), Undo: "u", Alt: i / width})
		}
		return p
	}
	deep := func(n int) api.Plan {
		p := api.Plan{Items: []api.Item{{Name: "t", Sub: true, Vital: true, Alts: 1, In: -1}}}
		for i := 1; i < n; i++ {
			p.Items = append(p.Items, api.Item{Name: "a" + strconv.Itoa(i), Sub: true, Alts: 1, In: i - 1})
		}
		p.Items = append(p.Items, api.Item{Name: "a", Undo: "u", In: n - 1})
		return p
	}
	cut := flat(4, 16)
	cut.Items = cut.Items[:64]
	for _, p := range []api.Plan{cut, flat(1, 16), flat(4, 1), flat(1, 1), deep(1), deep(6)} {
		if !isRight(p) {
			t.Fatal(p)
		}
		holdPlan(t, p)
	}
	for _, p := range []api.Plan{flat(4, 16), flat(1, 17), flat(5, 1), flat(0, 0), deep(7), deep(63)} {
		if isRight(p) {
			t.Fatal(p)
		}
		wrong(t, p)
	}
}

// P5.2: a plan whose lists would fill all memory, were they gone through.
func TestEndlessPlans(t *testing.T) {
	p := planned(t, read(t, whole))
	long := slices.Repeat([]int{1, 2}, 1<<23)
	for i := range p.Items {
		p.Items[i].After = long
	}
	wrong(t, p)
	p = planned(t, read(t, whole))
	for i := range p.Items {
		p.Items[i].Alts = math.MaxInt
	}
	wrong(t, p)
	// Items that stand in one another in a circle.
	p = planned(t, read(t, whole))
	for i := range p.Items {
		p.Items[i].Sub, p.Items[i].Undo, p.Items[i].Alts, p.Items[i].Alt = true, "", 1, 0
		p.Items[i].In = (i + 1) % len(p.Items)
	}
	wrong(t, p)
	p.Items[0].In = 0
	wrong(t, p)
}

// P5.2: all plans of three items of which two are told by a few numbers each.
func TestSmallPlans(t *testing.T) {
	var shapes []api.Item
	for _, alts := range []int{0, 1, 2} {
		for _, in := range []int{-1, 0, 1, 2} {
			for _, alt := range []int{0, 1} {
				for _, after := range [][]int{nil, {0}, {1}, {2}, {3}} {
					for bits := range 8 {
						shapes = append(shapes, api.Item{Undo: []string{"", "u"}[bits>>2], Sub: bits&1 == 1, Vital: bits&2 == 2, Alts: alts, In: in, Alt: alt, After: after})
					}
				}
			}
		}
	}
	right := 0
	for top := 1; top <= 2; top++ {
		for _, a := range shapes {
			// What is wrong of the first one alone is held without the second one.
			a.Name = "a"
			p := api.Plan{Items: []api.Item{{Name: "t", Sub: true, Vital: true, Alts: top, In: -1}, a}}
			if Right(p) != isRight(p) {
				t.Fatal(p)
			}
			if !isRightAlone(a) || a.In != 0 {
				continue
			}
			for _, b := range shapes {
				b.Name = "b"
				p := api.Plan{Items: []api.Item{p.Items[0], a, b}}
				if Right(p) != isRight(p) {
					t.Fatal(p)
				}
				if isRight(p) {
					right++
				}
			}
		}
	}
	// Two steps: in one body, neither or either leaning; in two bodies; one in a loose sub-saga, one in a vital one.
	if right != 6 {
		t.Error(right)
	}
}

// P5.2: things of plans turned, one or two at a time.
func TestSomePlans(t *testing.T) {
	r := rand.New(rand.NewSource(55))
	right, not := 0, 0
	for _, g := range randomSagas(53, 1500, 12) {
		p := planned(t, g)
		for range 1 + r.Intn(2) {
			n := len(p.Items)
			i, j := r.Intn(n), r.Intn(n)
			x := &p.Items[i]
			switch r.Intn(9) {
			case 0:
				x.In = j - 1
			case 1:
				x.Alt = r.Intn(4) - 1
			case 2:
				x.Alts += r.Intn(3) - 1
			case 3:
				x.After = append(x.After, j)
			case 4:
				x.Vital = !x.Vital
			case 5:
				x.Name = p.Items[j].Name
			case 6:
				p.Items[i], p.Items[j] = p.Items[j], p.Items[i]
			case 7:
				p.Items = p.Items[:max(n-1, 1)]
			case 8:
				p.Items = append(p.Items, api.Item{Name: "x", Undo: "u", In: j, Alt: r.Intn(2)})
			}
		}
		holdPlan(t, p)
		if isRight(p) {
			right++
		} else {
			not++
		}
	}
	if right < 100 || not < 100 {
		t.Error(right, not)
	}
}

// P5.3
func TestKidsAboveOver(t *testing.T) {
	p := planned(t, read(t, whole))
	for _, c := range []struct {
		in, alt int
		want    []int
	}{{0, 0, []int{1, 2, 3, 9}}, {0, 1, []int{10, 12, 13, 14}}, {3, 0, []int{4}}, {3, 1, []int{5, 6, 8}}, {6, 0, []int{7}}, {10, 0, []int{11}}} {
		if l := Kids(p, c.in, c.alt); !slices.Equal(l, c.want) {
			t.Error(c, l)
		}
	}
	for i, want := range [][]int{nil, {0}, {0}, {0}, {3, 0}, {3, 0}, {3, 0}, {6, 3, 0}, {3, 0}, {0}, {0}, {10, 0}, {0}, {0}, {0}} {
		if l := Above(p, i); !slices.Equal(l, want) {
			t.Error(i, l)
		}
	}
	for i, want := range [][]int{nil, {3, 9}, {1, 3, 9}, {9}, nil, {6}, nil, nil, {5, 6}, nil, {12}, nil, nil, {14}, nil} {
		if l := Over(p, i); !slices.Equal(l, want) {
			t.Error(i, l)
		}
	}
}

// P5.3, P5.6: of items and bodies that are none.
func TestNone(t *testing.T) {
	p := planned(t, read(t, whole))
	v, _ := See(p)
	n := len(p.Items)
	none := []int{math.MinInt, -64, -2, -1, n, n + 1, 63, 64, 65, math.MaxInt}
	for _, i := range none {
		if len(Above(p, i))+len(Over(p, i))+len(v.Above(i))+len(v.Over(i)) != 0 {
			t.Error(i, Above(p, i), Over(p, i), v.Above(i), v.Over(i))
		}
		for alt := -1; alt < 3; alt++ {
			if len(Kids(p, i, alt))+len(v.Kids(i, alt)) != 0 {
				t.Error(i, alt, Kids(p, i, alt), v.Kids(i, alt))
			}
		}
	}
	for in, alts := range map[int]int{0: 2, 1: 0, 3: 2, 4: 0, 6: 1, 10: 1, 14: 0} {
		for _, alt := range append(none[:4:4], alts, alts+1, 4, math.MaxInt) {
			if len(Kids(p, in, alt))+len(v.Kids(in, alt)) != 0 {
				t.Error(in, alt, Kids(p, in, alt), v.Kids(in, alt))
			}
		}
	}
}

// P5.6
func TestNoView(t *testing.T) {
	for _, v := range []*View{nil, {}, new(View)} {
		for i := -1; i < 3; i++ {
			if len(v.Kids(i, 0))+len(v.Kids(i, 1))+len(v.Above(i))+len(v.Over(i)) != 0 {
				t.Error(v, i)
			}
		}
	}
}

// P5.6: a view stays, whatever becomes of the plan, of its answers, and of other views.
func TestViewStays(t *testing.T) {
	p := planned(t, read(t, whole))
	kept := copyOfPlan(p)
	v, _ := See(p)
	w, _ := See(p)
	for i := range p.Items {
		spoil(p.Items[i].After, 7)
		p.Items[i] = api.Item{In: 5, Alt: 3}
	}
	for range 2 {
		for i := range kept.Items {
			for _, see := range []*View{v, w} {
				for alt := range 2 {
					kids := see.Kids(i, alt)
					if !slices.Equal(kids, expectKids(kept, i, alt)) {
						t.Fatal(i, alt, kids)
					}
					spoil(kids, -1)
				}
				above, over := see.Above(i), see.Over(i)
				if !slices.Equal(above, expectAbove(kept, i)) || !slices.Equal(over, expectOver(kept, i)) {
					t.Fatal(i, above, over)
				}
				spoil(above, -1)
				spoil(over, -1)
			}
		}
	}
}

// P5.4
func TestThereAndBack(t *testing.T) {
	for _, g := range append(randomSagas(54, 500, 63), read(t, whole)) {
		p := planned(t, g)
		h, e := Back(p)
		if e != api.OK || !sameSaga(g, h) {
			t.Fatal(g, h, int(e))
		}
		if q := planned(t, h); !samePlan(p, q) {
			t.Fatal(p, q)
		}
		// nil and the empty list are the same.
		for i := range p.Items {
			if len(p.Items[i].After) == 0 {
				p.Items[i].After = []int{}
			}
		}
		if h, e := Back(p); e != api.OK || !sameSaga(g, h) {
			t.Fatal(g, h, int(e))
		}
		// The saga that comes back is one whose text can be.
		s, e := syntax.Print(h)
		if again, _, f := syntax.Read(s); e != api.OK || f != api.OK || !sameSaga(g, again) {
			t.Fatal(s, int(e), int(f))
		}
	}
}

// P5.5
func TestAll(t *testing.T) {
	for _, g := range append(randomSagas(56, 200, 63), read(t, whole)) {
		p := planned(t, g)
		v, _ := See(p)
		found := make([]int, len(p.Items))
		for in := range p.Items {
			for alt := range p.Items[in].Alts {
				kids := v.Kids(in, alt)
				for _, i := range kids {
					found[i]++
				}
				holdLevels(t, p, v, kids)
			}
		}
		for i, n := range found {
			if i == 0 && n != 0 || i > 0 && n != 1 {
				t.Fatal(p, i, n)
			}
		}
	}
}

// holdLevels holds that who leans on an item of a body stands Over it, and has a greater level there.
func holdLevels(t *testing.T, p api.Plan, v *View, kids []int) {
	t.Helper()
	var l []api.Arc
	for to, i := range kids {
		for _, on := range p.Items[i].After {
			if !slices.Contains(v.Over(on), i) {
				t.Fatal(p, i, on, v.Over(on))
			}
			l = append(l, api.Arc{From: slices.Index(kids, on), To: to})
		}
	}
	levels, e := dag.Levels(len(kids), l)
	if e != api.OK {
		t.Fatal(p, kids, int(e))
	}
	for at, i := range kids {
		for _, over := range v.Over(i) {
			if levels[slices.Index(kids, over)] <= levels[at] {
				t.Fatal(p, i, over, levels)
			}
		}
	}
}

// spoil writes over all the room of a list.
func spoil[E any](l []E, with E) {
	l = l[:cap(l)]
	for i := range l {
		l[i] = with
	}
}

func spoilBodies(l []api.Body) {
	for _, b := range l {
		for _, n := range b.Nodes {
			spoil(n.After, "spoilt")
			spoilBodies(n.Alts)
		}
		spoil(b.Nodes, api.Node{Name: "spoilt"})
	}
	spoil(l, api.Body{})
}

// What is handed in stays as it was, what stands behind its lists' ends, too.
func TestArgumentsStay(t *testing.T) {
	g := read(t, whole)
	nodes := append(slices.Clone(g.Alts[0].Nodes), step("behind"))
	nodes[0].After = []string{"c", "behind"}[:1]
	alts := append(slices.Clone(g.Alts), body(step("behind")))
	alts[0].Nodes = nodes[:len(nodes)-1]
	g.Alts = alts[:2]
	kept := copyOfBodies(alts)
	p := planned(t, g)
	Check(g)
	if !slices.EqualFunc(alts, kept, sameBody) || nodes[len(nodes)-1].Name != "behind" || nodes[0].After[:2][1] != "behind" {
		t.Error(alts)
	}
	items := append(slices.Clone(p.Items), api.Item{Name: "behind"})
	items[1].After = []int{2, 99}[:1]
	p.Items = items[:len(items)-1]
	keptPlan := copyOfPlan(api.Plan{Items: items})
	Right(p)
	Back(p)
	See(p)
	for i := range items {
		Kids(p, i, 0)
		Above(p, i)
		Over(p, i)
	}
	if !samePlan(api.Plan{Items: items}, keptPlan) || items[1].After[:2][1] != 99 {
		t.Error(items)
	}
}

// An answer shares nothing with arguments, nor with other answers.
func TestNewMemory(t *testing.T) {
	g := read(t, whole)
	kept := copyOfSaga(g)
	p, q := planned(t, g), planned(t, g)
	for i := range p.Items {
		before := copyOfPlan(p)
		spoil(p.Items[i].After, -1)
		before.Items[i].After = p.Items[i].After
		if !samePlan(before, p) {
			t.Fatal(i, p)
		}
	}
	spoil(p.Items, api.Item{In: 9})
	if !sameSaga(g, kept) || !samePlan(q, expectPlan(g)) {
		t.Fatal(g, q)
	}
	x, _ := Back(q)
	y, _ := Back(q)
	spoilBodies(x.Alts)
	if !samePlan(q, expectPlan(g)) || !sameSaga(y, g) {
		t.Fatal(q, y)
	}
	for range 2 {
		for _, l := range [][]int{Kids(q, 0, 0), Above(q, 7), Over(q, 2)} {
			spoil(l, -1)
		}
		holdPlan(t, q)
	}
	spoilBodies(g.Alts)
	if !samePlan(q, expectPlan(kept)) {
		t.Fatal(q)
	}
}
