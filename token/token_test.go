package token

import (
	"math"
	"math/rand"
	"reflect"
	"slices"
	"strconv"
	"strings"
	"testing"

	"argosy/api"
	"argosy/plan"
)

const (
	chain = "L(V(L(V(L(.)))))"                                                   // as deep as may be: each token stands in the one ahead of it
	mixed = ".|.L(.|.V(.))V(.)"                                                  // the tokens 1 to 6: 3, 4 and 6 stand in 2, 5 in 4
	wide  = "................|................|................|..............." // 63 steps
)

// bushy is of 63 nodes, and of as many bodies: three levels of sagas.
func bushy() string {
	four, one := "L(.|.|.|.)", "V(.)"
	bodies := func(subs ...string) string { return strings.Join(subs, "|") }
	full := "L(" + bodies(four, four, four, four) + ")"
	return bodies(full, full, "V("+bodies(four, one, one, one)+")", "V("+bodies(one, one, one, one)+")")
}

func expectLive(t *testing.T, k *Tree, want ...int) {
	t.Helper()
	if l := k.Live(); !slices.Equal(l, want) {
		t.Fatalf("live %v; want %v", l, want)
	}
	for x := 1; x <= 70; x++ {
		if k.Off(x) == slices.Contains(want, x) {
			t.Fatalf("live %v, and %d is off: %v", want, x, k.Off(x))
		}
	}
}

func expectCancel(t *testing.T, k *Tree, x, want int) {
	t.Helper()
	if n := k.Cancel(x); n != want {
		t.Fatalf("Cancel(%d): %d; want %d", x, n, want)
	}
}

func count(to int) []int {
	var l []int
	for x := range to {
		l = append(l, x+1)
	}
	return l
}

// P17.1 to P17.4: no tree, and one that New did not make.
func TestNoTree(t *testing.T) {
	for _, k := range []*Tree{nil, {}, new(Tree)} {
		for _, x := range []int{math.MinInt, -1, 0, 1, 2, 63, 64, math.MaxInt} {
			if k.Of(x) != 0 || k.In(x, 0) != 0 || k.In(0, x) != 0 {
				t.Errorf("%d: %d, %d, %d", x, k.Of(x), k.In(x, 0), k.In(0, x))
			}
			if k.Cancel(x) != 0 || !k.Off(x) || len(k.Live()) != 0 {
				t.Errorf("%d: %v, live %v", x, k.Off(x), k.Live())
			}
		}
		if k != nil && !reflect.DeepEqual(*k, Tree{}) {
			t.Errorf("%v: something was done", *k)
		}
	}
}

// The example of the chapter.
func TestExample(t *testing.T) {
	k := grown(t, ".|L(.)")
	if k.Of(1) != 1 || k.Of(2) != 2 || k.Of(3) != 3 || k.In(0, 0) != 1 || k.In(0, 1) != 2 || k.In(2, 0) != 3 {
		t.Error(k.Of(1), k.Of(2), k.Of(3), k.In(0, 0), k.In(0, 1), k.In(2, 0))
	}
	expectLive(t, k, 1, 2, 3)
	expectCancel(t, k, 2, 2)
	expectLive(t, k, 1)
}

// P17.1: of each item the token of its body.
func TestOf(t *testing.T) {
	for _, c := range []struct {
		form string
		want []int
	}{
		{".", []int{0, 1}},
		{"...", []int{0, 1, 1, 1}},
		{".|.", []int{0, 1, 2}},
		{".|..|.|.", []int{0, 1, 2, 2, 3, 4}},
		{"L(.)", []int{0, 1, 2}},
		{"V(.)", []int{0, 1, 2}},
		{".L(.).", []int{0, 1, 1, 2, 1}},
		{"L(.)V(.)", []int{0, 1, 2, 1, 3}},
		{"L(.|.).", []int{0, 1, 2, 3, 1}},
		{"L(.)|.", []int{0, 1, 3, 2}},
		{".|L(.|L(.).)|L(.)", []int{0, 1, 2, 4, 5, 6, 5, 3, 7}},
		{mixed, []int{0, 1, 2, 2, 3, 4, 4, 5, 2, 6}},
		{chain, []int{0, 1, 2, 3, 4, 5, 6}},
	} {
		k := grown(t, c.form)
		var got []int
		for i := range c.want {
			got = append(got, k.Of(i))
		}
		if !slices.Equal(got, c.want) {
			t.Errorf("%s: %v; want %v", c.form, got, c.want)
		}
		for _, i := range []int{math.MinInt, -len(c.want), -1, len(c.want), len(c.want) + 1, 64, 65, math.MaxInt} {
			if n := k.Of(i); n != 0 {
				t.Errorf("%s: of %d: %d", c.form, i, n)
			}
		}
	}
}

// P17.1: of each body its token, and 0 where there is none.
func TestIn(t *testing.T) {
	k := grown(t, mixed)
	bodies := map[[2]int]int{{0, 0}: 1, {0, 1}: 2, {3, 0}: 3, {3, 1}: 4, {6, 0}: 5, {8, 0}: 6}
	numbers := []int{math.MinInt, -2, -1, 0, 1, 2, 3, 4, 5, 6, 7, 8, 9, 10, 11, 63, 64, 1 << 32, math.MaxInt}
	for _, s := range numbers {
		for _, alt := range numbers {
			if n := k.In(s, alt); n != bodies[[2]int{s, alt}] {
				t.Errorf("%d, %d: %d; want %d", s, alt, n, bodies[[2]int{s, alt}])
			}
		}
	}
}

// P17.1: as many items as a plan may have: in few bodies, and in as many as there may be.
func TestGreatest(t *testing.T) {
	k := grown(t, wide)
	for i := 1; i < 64; i++ {
		if n := k.Of(i); n != (i-1)/16+1 {
			t.Errorf("%d: %d", i, n)
		}
	}
	expectLive(t, k, 1, 2, 3, 4)
	form := bushy()
	p := formed(t, form)
	if len(p.Items) != 64 {
		t.Fatal(len(p.Items))
	}
	k = treeOf(t, p)
	checkBodies(t, form, k, ledgerOf(form))
	expectLive(t, k, count(63)...)
	for _, c := range []struct{ saga, alt, n int }{{0, 0, 1 + 4 + 16}, {0, 1, 1 + 4 + 16}, {0, 2, 1 + 4 + 7}, {0, 3, 1 + 4 + 4}} {
		expectCancel(t, k, k.In(c.saga, c.alt), c.n)
	}
	expectLive(t, k)
}

// P17.1: a plan that is not right has no tree.
func TestWrongPlans(t *testing.T) {
	step := api.Item{Name: "a", Undo: "u"}
	top := func(alts int) api.Item { return api.Item{Name: "t", Sub: true, Vital: true, Alts: alts, In: -1} }
	in := func(x api.Item, in, alt int, after ...int) api.Item {
		x.In, x.Alt, x.After = in, alt, after
		return x
	}
	named := func(x api.Item, name string) api.Item { x.Name = name; return x }
	many := func(steps, width int) []api.Item {
		items := []api.Item{top((steps + width - 1) / width)}
		for i := range steps {
			items = append(items, in(named(step, "n"+strconv.Itoa(i)), 0, i/width))
		}
		return items
	}
	if _, e := New(api.Plan{Items: many(63, 16)}); e != api.OK {
		t.Fatal(int(e))
	}
	for name, items := range map[string][]api.Item{
		"nothing":             nil,
		"no items":            {},
		"a saga alone":        {top(1)},
		"no saga":             {step},
		"a saga in itself":    {in(top(1), 0, 0), step},
		"two sagas":           {top(1), top(1), in(step, 1, 0)},
		"an empty item":       {{}, {}},
		"in what is none":     {top(1), in(step, 7, 0)},
		"in itself":           {top(1), in(step, 1, 0)},
		"in a step":           {top(1), step, in(named(step, "b"), 1, 0)},
		"ahead of its saga":   {top(1), in(step, 2, 0), {Name: "s", Sub: true, Alts: 1}},
		"a body that is none": {top(1), in(step, 0, 1)},
		"a body below 0":      {top(1), in(step, 0, -1)},
		"an empty body":       {top(2), step},
		"no bodies":           {top(0), step},
		"bodies below 0":      {top(-1), step},
		"5 bodies":            {top(5), step, in(named(step, "b"), 0, 1), in(named(step, "c"), 0, 2), in(named(step, "d"), 0, 3), in(named(step, "e"), 0, 4)},
		"endless bodies":      {top(math.MaxInt), step},
		"bodies of a step":    {top(1), {Name: "a", Undo: "u", Alts: 1}},
		"a name twice":        {top(1), step, step},
		"a circle":            {top(1), in(step, 0, 0, 2), in(named(step, "b"), 0, 0, 1)},
		"no undo":             {top(1), {Name: "a"}},
		"65 items":            many(64, 16),
		"17 in one body":      many(17, 17),
	} {
		if k, e := New(api.Plan{Items: items}); k != nil || e != api.ErrArg {
			t.Errorf("%s: %v, %d", name, k, int(e))
		}
	}
}

// P17.1: of plans in which one thing is turned those that are right have a tree, and no others.
func TestTurnedPlans(t *testing.T) {
	right, wrong := 0, 0
	hold := func(items []api.Item) {
		p := api.Plan{Items: items}
		k, e := New(p)
		if plan.Right(p) {
			right++
			if e != api.OK || k == nil || k.Of(0) != 0 || k.Of(1) != 1 || len(k.Live()) < 1 {
				t.Fatalf("%v: %v, %d", p, k, int(e))
			}
			return
		}
		wrong++
		if e != api.ErrArg || k != nil {
			t.Fatalf("%v: %v, %d", p, k, int(e))
		}
	}
	for _, form := range []string{".", ".|.", mixed, chain} {
		p := formed(t, form)
		for i := range p.Items {
			for _, x := range []int{math.MinInt, -1, 0, 1, 2, 3, len(p.Items), math.MaxInt} {
				for _, turn := range []func(it *api.Item){
					func(it *api.Item) { it.In = x },
					func(it *api.Item) { it.Alt = x },
					func(it *api.Item) { it.Alts = x },
					func(it *api.Item) { it.After = []int{x} },
					func(it *api.Item) { it.Vital = !it.Vital },
					func(it *api.Item) { it.Sub = !it.Sub },
					func(it *api.Item) { it.Name = "fresh" },
					func(it *api.Item) { it.Undo = "" },
				} {
					items := slices.Clone(p.Items)
					turn(&items[i])
					hold(items)
				}
			}
			hold(slices.Delete(slices.Clone(p.Items), i, i+1))
			hold(slices.Clone(p.Items)[:i])
		}
	}
	if right < 100 || wrong < 100 {
		t.Error(right, wrong)
	}
}

// P17.2, P17.3: tokens in which none stands, in which others do, through others, too, and such that are off ahead.
func TestCancel(t *testing.T) {
	type call struct {
		k, n int
		live []int
	}
	for _, c := range []struct {
		name, form string
		calls      []call
	}{
		{"the only one", ".", []call{{1, 1, nil}}},
		{"none stands in it", mixed, []call{{1, 1, []int{2, 3, 4, 5, 6}}}},
		{"a last one", mixed, []call{{6, 1, []int{1, 2, 3, 4, 5}}}},
		{"the innermost one", mixed, []call{{5, 1, []int{1, 2, 3, 4, 6}}}},
		{"one stands in it", mixed, []call{{4, 2, []int{1, 2, 3, 6}}}},
		{"others through others", mixed, []call{{2, 5, []int{1}}}},
		{"all in it in turn", chain, []call{{1, 6, nil}}},
		{"from the middle down", chain, []call{{4, 3, []int{1, 2, 3}}}},
		{"from within", chain, []call{{6, 1, []int{1, 2, 3, 4, 5}}, {5, 1, []int{1, 2, 3, 4}}, {2, 3, []int{1}}, {1, 1, nil}}},
		{"called off again", mixed, []call{{4, 2, []int{1, 2, 3, 6}}, {4, 0, []int{1, 2, 3, 6}}, {4, 0, []int{1, 2, 3, 6}}}},
		{"off by the one around it", mixed, []call{{4, 2, []int{1, 2, 3, 6}}, {5, 0, []int{1, 2, 3, 6}}}},
		{"off by one far around it", mixed, []call{{2, 5, []int{1}}, {5, 0, []int{1}}, {4, 0, []int{1}}, {3, 0, []int{1}}}},
		{"off by one further around", mixed, []call{{4, 2, []int{1, 2, 3, 6}}, {5, 0, []int{1, 2, 3, 6}}, {2, 3, []int{1}}, {5, 0, []int{1}}}},
		{"some within are off", mixed, []call{{5, 1, []int{1, 2, 3, 4, 6}}, {3, 1, []int{1, 2, 4, 6}}, {2, 3, []int{1}}}},
		{"all within are off", mixed, []call{{3, 1, []int{1, 2, 4, 5, 6}}, {4, 2, []int{1, 2, 6}}, {6, 1, []int{1, 2}}, {2, 1, []int{1}}}},
		{"the one between is live", chain, []call{{5, 2, []int{1, 2, 3, 4}}, {3, 2, []int{1, 2}}, {4, 0, []int{1, 2}}}},
		{"one by one", ".|.|.|.", []call{{3, 1, []int{1, 2, 4}}, {1, 1, []int{2, 4}}, {4, 1, []int{2}}, {2, 1, nil}, {2, 0, nil}}},
		{"all, from the last", mixed, []call{{6, 1, count(5)}, {5, 1, count(4)}, {4, 1, count(3)}, {3, 1, count(2)}, {2, 1, count(1)}, {1, 1, nil}, {1, 0, nil}, {6, 0, nil}}},
		{"beside, in the same saga", "L(.|.)", []call{{2, 1, []int{1, 3}}, {3, 1, []int{1}}}},
		{"beside, in the same body", "L(.)L(.)", []call{{2, 1, []int{1, 3}}, {3, 1, []int{1}}}},
		{"an outer one of a greater saga", "L(.)|L(L(.))", []call{{2, 3, []int{1, 3}}, {1, 2, nil}}},
		{"a vital one does not reach up", "V(V(.))", []call{{3, 1, []int{1, 2}}, {2, 1, []int{1}}}},
	} {
		k := grown(t, c.form)
		for at, x := range c.calls {
			if n := k.Cancel(x.k); n != x.n || !slices.Equal(k.Live(), x.live) || !k.Off(x.k) {
				t.Fatalf("%s, call %d of %d: %d, live %v; want %d, live %v", c.name, at, x.k, n, k.Live(), x.n, x.live)
			}
			expectLive(t, k, x.live...)
		}
	}
}

// P17.2: what is no token is off, and calling it off does nothing, whatever is off.
func TestNoToken(t *testing.T) {
	for _, first := range []int{0, 3, 4, 1, 2} {
		k := grown(t, mixed)
		k.Cancel(first)
		live := k.Live()
		for _, x := range []int{math.MinInt, math.MinInt + 1, -64, -7, -6, -2, -1, 0, 7, 8, 12, 63, 64, 65, 1 << 32, 1<<32 + 1, math.MaxInt} {
			if n := k.Cancel(x); n != 0 || !k.Off(x) {
				t.Errorf("%d: %d, off: %v", x, n, k.Off(x))
			}
			expectLive(t, k, live...)
		}
	}
}

// P17.1 to P17.4: all sagas of up to five nodes, and all ways of a few calls.
func TestAllForms(t *testing.T) {
	for nodes := 1; nodes <= 5; nodes++ {
		for _, form := range forms(nodes, 4) {
			p := formed(t, form)
			checkBodies(t, form, treeOf(t, p), ledgerOf(form))
			check(t, form, treeOf(t, p), ledgerOf(form))
			many := len(ledgerOf(form).places) + 2
			for way := range many * many {
				k, l := treeOf(t, p), ledgerOf(form)
				cancel(t, form, k, l, way%many)
				cancel(t, form, k, l, way/many)
				checkBodies(t, form, k, l)
			}
		}
	}
}

// P17.1 to P17.4: great sagas of any shape, called off in long runs, till nothing is live.
func TestAnyForms(t *testing.T) {
	r := rand.New(rand.NewSource(17))
	most := 0
	for range 400 {
		form := anyForm(r, 1+r.Intn(63))
		k, l := grown(t, form), ledgerOf(form)
		most = max(most, len(l.places))
		checkBodies(t, form, k, l)
		check(t, form, k, l)
		for len(l.live()) > 0 {
			cancel(t, form, k, l, r.Intn(len(l.places)*3)-len(l.places)/4)
		}
		checkBodies(t, form, k, l)
	}
	if most < 30 {
		t.Error(most)
	}
}

// P17.3: when one token is called off, those go off that stand in it, and no other one.
func TestDown(t *testing.T) {
	for _, form := range []string{mixed, chain, wide, bushy()} {
		p, l := formed(t, form), ledgerOf(form)
		for x := 1; x <= len(l.places); x++ {
			k, down := treeOf(t, p), 0
			n := k.Cancel(x)
			for other := 1; other <= len(l.places); other++ {
				if k.Off(other) != l.stands(other, x) {
					t.Fatalf("%s: Cancel(%d): %d is off: %v", form, x, other, k.Off(other))
				}
				if l.stands(other, x) {
					down++
				}
			}
			if n != down {
				t.Fatalf("%s: Cancel(%d): %d; want %d", form, x, n, down)
			}
		}
	}
}

// orders tells all orders of some numbers.
func orders(l []int) [][]int {
	if len(l) == 0 {
		return [][]int{nil}
	}
	var out [][]int
	for i, x := range l {
		for _, rest := range orders(slices.Concat(l[:i], l[i+1:])) {
			out = append(out, append([]int{x}, rest...))
		}
	}
	return out
}

// P17.4: in whatever order tokens are called off, the same are, and each once; called off again they let none more be off.
func TestAnyOrder(t *testing.T) {
	for _, form := range []string{mixed, chain, "L(.|.)|V(.|.)", "L(L(.)V(.))|L(.)"} {
		p := formed(t, form)
		many := len(ledgerOf(form).places)
		for some := range 1 << many {
			l := ledgerOf(form)
			for x := range many {
				if some>>x&1 == 1 {
					l.called = append(l.called, x+1)
				}
			}
			want := l.live()
			for _, order := range orders(l.called) {
				k, n := treeOf(t, p), 0
				for _, x := range order {
					n += k.Cancel(x)
				}
				if live := k.Live(); !slices.Equal(live, want) || n != many-len(live) {
					t.Fatalf("%s: %v: %d, live %v; want %v", form, order, n, live, want)
				}
				for _, x := range order {
					expectCancel(t, k, x, 0)
				}
				if live := k.Live(); !slices.Equal(live, want) {
					t.Fatalf("%s: %v again: live %v; want %v", form, order, live, want)
				}
			}
		}
	}
}

// P17.1: what leans on what, and whether a sub-saga is vital, is nothing to the tokens.
func TestLikeTrees(t *testing.T) {
	p := formed(t, mixed)
	q := formed(t, strings.Map(func(letter rune) rune {
		switch letter {
		case 'V':
			return 'L'
		case 'L':
			return 'V'
		}
		return letter
	}, mixed))
	q.Items[2].After, q.Items[3].After = []int{3, 8}, []int{8}
	for x := range 8 {
		k, l := treeOf(t, p), treeOf(t, q)
		if k.Cancel(x) != l.Cancel(x) || !slices.Equal(k.Live(), l.Live()) {
			t.Errorf("%d: %v, %v", x, k.Live(), l.Live())
		}
		for i := range p.Items {
			if k.Of(i) != l.Of(i) || k.In(i, x) != l.In(i, x) {
				t.Errorf("%d: %d, %d", i, k.Of(i), l.Of(i))
			}
		}
	}
}

// P17.1: New turns no plan, nor what stands behind its lists' ends, and a plan that is turned behind New turns no tree.
func TestPlanIsTurned(t *testing.T) {
	p, l := formed(t, mixed), ledgerOf(mixed)
	behind := api.Item{Name: "s", Sub: true, Alts: 2, After: []int{1}}
	room := append(slices.Clone(p.Items), behind, behind)
	room[3].After = []int{2, 8, 8}[:1]
	handed := api.Plan{Items: room[:len(p.Items)]}
	k := treeOf(t, handed)
	p.Items[3].After = []int{2}
	if !reflect.DeepEqual(room[len(p.Items):], []api.Item{behind, behind}) || !reflect.DeepEqual(room[3].After[:3], []int{2, 8, 8}) {
		t.Error(room)
	}
	for i, x := range handed.Items {
		if x.Name != p.Items[i].Name || x.In != p.Items[i].In || x.Alt != p.Items[i].Alt || x.Alts != p.Items[i].Alts || !slices.Equal(x.After, p.Items[i].After) {
			t.Errorf("%d: %v", i, x)
		}
	}
	cancel(t, mixed, k, l, 4)
	for i := range room {
		room[i] = api.Item{In: 5 - i, Alt: i, Alts: 4 - i, Sub: true}
	}
	checkBodies(t, mixed, k, l)
	check(t, mixed, k, l)
	cancel(t, mixed, k, l, 2)
}

// P17.2: a Live that is turned turns no tree, and no other Live.
func TestLiveIsTurned(t *testing.T) {
	k := grown(t, mixed)
	for x := 6; x >= 0; x-- {
		want := count(x)
		l, other := k.Live(), k.Live()
		for i := range l {
			l[i] = -1 - i
		}
		_ = append(l, 77, 77)
		_ = append(l[:0], 78)
		if !slices.Equal(other, want) {
			t.Fatal(other)
		}
		expectLive(t, k, want...)
		k.Cancel(x)
	}
}

// P17.2: a tree that goes on turns no Live that was told.
func TestTreeGoesOn(t *testing.T) {
	form := bushy()
	k, l := grown(t, form), ledgerOf(form)
	var told, want [][]int
	for x := 63; x > 0; x -= 2 {
		told, want = append(told, k.Live()), append(want, l.live())
		cancel(t, form, k, l, x)
	}
	for i := range told {
		if !slices.Equal(told[i], want[i]) {
			t.Fatalf("%d: %v; want %v", i, told[i], want[i])
		}
	}
}

// P17.2: asking turns nothing.
func TestAsking(t *testing.T) {
	k, l := grown(t, mixed), ledgerOf(mixed)
	for _, x := range []int{5, 3, 2} {
		for range 3 {
			checkBodies(t, mixed, k, l)
			check(t, mixed, k, l)
		}
		cancel(t, mixed, k, l, x)
	}
}

// P17.1 to P17.4: trees, of one plan too, have nothing of one another.
func TestApart(t *testing.T) {
	p := formed(t, mixed)
	a, b, c := treeOf(t, p), treeOf(t, p), grown(t, chain)
	expectCancel(t, a, 2, 5)
	expectLive(t, b, count(6)...)
	expectLive(t, c, count(6)...)
	expectCancel(t, b, 1, 1)
	expectCancel(t, c, 6, 1)
	expectLive(t, a, 1)
	expectLive(t, b, 2, 3, 4, 5, 6)
	expectLive(t, c, count(5)...)
	expectLive(t, treeOf(t, p), count(6)...)
}
