package trace

import (
	"iter"
	"math/rand"
	"slices"
	"testing"

	"argosy/api"
	"argosy/syntax"
)

// The second reckoning takes the words one by one, over all places, pairs of places, and pairs of steps; what leans on what is read off the saga as a tree.

func reckonCheck(l []api.Effect) api.Errno {
	for i, x := range l {
		for _, y := range l[:i] {
			if x.Key == y.Key && x.Ok != y.Ok {
				return api.ErrState
			}
		}
	}
	return api.OK
}

func reckonFind(l []api.Effect, k api.Key) int {
	for i, x := range l {
		if x.Key.Item == k.Item && x.Key.Undo == k.Undo && x.Key.Try == k.Try {
			return i
		}
	}
	return -1
}

func reckonAgain(l []api.Effect) int {
	n := 0
	for i, x := range l {
		if reckonFind(l[:i], x.Key) >= 0 {
			n++
		}
	}
	return n
}

func reckonLast(l []api.Effect) []api.Effect {
	var out []api.Effect
	for i, x := range l {
		if reckonFind(l[i+1:], x.Key) < 0 {
			out = append(out, x)
		}
	}
	return out
}

func reckonLeft(l []api.Effect) []int {
	var out []int
	for item := -2; item < 70; item++ {
		if firstOf(l, item, false, true) < len(l) && firstOf(l, item, true, true) == len(l) {
			out = append(out, item)
		}
	}
	return out
}

// firstOf tells the first place of an item's step, or of its undoing, perhaps of what went well alone; where there is none, the end.
func firstOf(l []api.Effect, item int, undo, wellAlone bool) int {
	for i, x := range l {
		if x.Key.Item == item && x.Key.Undo == undo && (x.Ok || !wellAlone) {
			return i
		}
	}
	return len(l)
}

// tree is a saga's steps, each with those that lean on it, or stand in what does.
type tree struct {
	steps map[int]bool
	later map[int][]int
}

// treeOf reads a saga whose nodes are named by letters, in the order of the items.
func treeOf(t testing.TB, text string) tree {
	t.Helper()
	g, _, e := syntax.Read("saga t { " + text + " }")
	if e != api.OK {
		t.Fatal(text, int(e))
	}
	x := tree{map[int]bool{}, map[int][]int{}}
	for _, b := range g.Alts {
		x.readBody(b)
	}
	return x
}

func (x tree) readBody(b api.Body) {
	for _, n := range b.Nodes {
		if !n.Sub {
			x.steps[number(n)] = true
		}
		for _, inner := range n.Alts {
			x.readBody(inner)
		}
		for _, on := range b.Nodes {
			if !on.Sub && reaches(b, n, on.Name) {
				x.later[number(on)] = append(x.later[number(on)], stepsIn(n)...)
			}
		}
	}
}

func number(n api.Node) int { return int(n.Name[0]) - 'a' + 1 }

// reaches tells whether a chain of leanings leads from a node to that of a name.
func reaches(b api.Body, n api.Node, name string) bool {
	for _, on := range n.After {
		at := slices.IndexFunc(b.Nodes, func(m api.Node) bool { return m.Name == on })
		if on == name || reaches(b, b.Nodes[at], name) {
			return true
		}
	}
	return false
}

// stepsIn tells a step itself, or all steps of a sub-saga.
func stepsIn(n api.Node) []int {
	if !n.Sub {
		return []int{number(n)}
	}
	var l []int
	for _, b := range n.Alts {
		for _, m := range b.Nodes {
			l = append(l, stepsIn(m)...)
		}
	}
	return l
}

func reckonOrder(x tree, l []api.Effect) api.Errno {
	for at, y := range l {
		if !x.steps[y.Key.Item] {
			return api.ErrState
		}
		if !y.Key.Undo {
			continue
		}
		ahead := l[:at]
		if firstOf(ahead, y.Key.Item, false, true) == at || firstOf(ahead, y.Key.Item, true, true) < at {
			return api.ErrState
		}
	}
	for a := range x.steps {
		for _, b := range x.later[a] {
			bothUndone := firstOf(l, a, true, true) < len(l) && firstOf(l, b, true, true) < len(l)
			if bothUndone && firstOf(l, a, true, false) < firstOf(l, b, true, true) {
				return api.ErrState
			}
		}
	}
	return api.OK
}

// expectReckoned holds all calls of a trace but Order.
func expectReckoned(t *testing.T, l []api.Effect) {
	t.Helper()
	if Check(l) != reckonCheck(l) || Again(l) != reckonAgain(l) {
		t.Fatal(l, int(Check(l)), Again(l))
	}
	if !slices.Equal(Last(l), reckonLast(l)) || !slices.Equal(Left(l), reckonLeft(l)) {
		t.Fatal(l, Last(l), Left(l))
	}
	for item := range 4 {
		for try := range 2 {
			for _, undo := range []bool{false, true} {
				k := api.Key{Item: item, Undo: undo, Try: try}
				if Find(l, k) != reckonFind(l, k) {
					t.Fatal(l, k, Find(l, k))
				}
			}
		}
	}
}

// of tells all traces of at most so many effects, each of these.
func of(effects []api.Effect, most int) iter.Seq[[]api.Effect] {
	return func(yield func(l []api.Effect) bool) {
		var more func(l []api.Effect) bool
		more = func(l []api.Effect) bool {
			if !yield(l) {
				return false
			}
			for _, x := range effects {
				if len(l) < most && !more(append(slices.Clone(l), x)) {
					return false
				}
			}
			return true
		}
		more(nil)
	}
}

// traces tells so many traces of any effects of the items from 1 on, of any length; in many of them much is undone in order.
func traces(count, items int) iter.Seq[[]api.Effect] {
	return func(yield func(l []api.Effect) bool) {
		r := rand.New(rand.NewSource(int64(count)))
		for range count {
			if !yield(anyTrace(r, items)) {
				return
			}
		}
	}
}

func anyTrace(r *rand.Rand, items int) []api.Effect {
	var l []api.Effect
	if r.Intn(3) > 0 {
		for i := range items {
			l = append(l, api.Effect{Key: api.Key{Item: i + 1}, Ok: r.Intn(8) > 0})
		}
	}
	for range r.Intn(9) {
		k := api.Key{Item: r.Intn(items) + 1, Undo: r.Intn(4) > 0}
		if k.Undo {
			k.Try = r.Intn(3)
		}
		l = append(l, api.Effect{Key: k, Ok: r.Intn(2) == 0})
	}
	if r.Intn(4) == 0 {
		r.Shuffle(len(l), func(i, j int) { l[i], l[j] = l[j], l[i] })
	}
	return l
}

// script tells choices, and how what is done by them goes.
func script(seed int64) (*rand.Rand, []byte) {
	r := rand.New(rand.NewSource(seed))
	s := make([]byte, 16)
	for i := range s {
		s[i] = byte(r.Intn(4))
		if r.Intn(6) == 0 {
			s[i] |= 4
		}
	}
	return r, s
}

// P20.1, P20.2, P20.3: all short traces of two items' effects.
func TestReckonShort(t *testing.T) {
	for l := range of(traced("a+ a- a0+ a0- a1+ a1- b+ b- b0+ b1-"), 5) {
		expectReckoned(t, l)
	}
}

// P20.1, P20.2, P20.3: all traces, somewhat longer, of few effects.
func TestReckonFew(t *testing.T) {
	for l := range of(traced("a+ a- b+ b0+"), 8) {
		expectReckoned(t, l)
	}
}

// P20.1, P20.2, P20.3: long traces.
func TestReckonLong(t *testing.T) {
	r := rand.New(rand.NewSource(201))
	for range 200 {
		l := make([]api.Effect, r.Intn(400))
		for i := range l {
			l[i].Key = api.Key{Item: r.Intn(40) - 1, Undo: r.Intn(2) == 0, Try: r.Intn(3)}
			l[i].Ok = r.Intn(3) > 0
		}
		expectReckoned(t, l)
		for _, x := range l {
			if Find(l, x.Key) != reckonFind(l, x.Key) {
				t.Fatal(l, x)
			}
		}
	}
}

// P20.4: all short traces of two steps, of which one leans on the other in each way, or does not.
func TestReckonOrderShort(t *testing.T) {
	for _, text := range []string{
		"( step a undo u ; step b undo u ; )",
		"( step a undo u ; step b undo u after a ; )",
		"( step a undo u after b ; step b undo u ; )",
		"( step a undo u ; ) or ( step b undo u ; )",
	} {
		x, p := treeOf(t, text), bodies(t, text)
		for l := range of(traced("a+ a0+ a1- b+ b0+ b1-"), 5) {
			if e := Order(p, l); e != reckonOrder(x, l) {
				t.Fatal(text, l, int(e))
			}
		}
		// Both were done, so that there is room for more tries.
		for l := range of(traced("a- a0+ a0- b- b0+ b0-"), 4) {
			l = append(traced("a+ b+"), l...)
			if e := Order(p, l); e != reckonOrder(x, l) {
				t.Fatal(text, l, int(e))
			}
		}
	}
}

// P20.4: any traces of sagas within sagas.
func TestReckonOrder(t *testing.T) {
	for _, text := range []string{
		"( step a undo u ; loose sub b after a { ( step c undo u ; ) } step d undo u after b ; )",
		"( vital sub a after c { ( step b undo u ; ) } step c undo u ; step d undo u after a ; )",
		"( step a undo u ; vital sub b after a { ( step c undo u ; loose sub d after c { ( step e undo u ; ) or ( step f undo u ; ) } ) } )",
		"( step a undo u after b ; step b undo u after c ; step c undo u after d ; step d undo u ; )",
		"( step a undo u ; step b undo u after a ; step c undo u after a ; step d undo u after b , c ; )",
		"( vital sub a { ( step b undo u ; ) } loose sub c after a { ( step d undo u ; step e undo u after d ; ) } step f undo u after c ; )",
		"( step a undo u ; loose sub b after a { ( vital sub c { ( step d undo u ; ) } ) } ) or ( step e undo u ; step f undo u after e ; )",
	} {
		x, p := treeOf(t, text), bodies(t, text)
		in, out := 0, 0
		for l := range traces(10000, len(p.Items)-1) {
			// Most effects are of steps, so that there is something else to be found wrong.
			if len(l)%5 > 0 {
				l = slices.DeleteFunc(l, func(y api.Effect) bool { return !x.steps[y.Key.Item] })
			}
			want := reckonOrder(x, l)
			if e := Order(p, l); e != want {
				t.Fatal(text, l, int(e), int(want))
			}
			if want == api.OK {
				in++
			} else {
				out++
			}
		}
		if in < 200 || out < 200 {
			t.Error(text, in, out)
		}
	}
}
