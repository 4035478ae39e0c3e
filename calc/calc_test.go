package calc

import (
	"math"
	"math/big"
	"slices"
	"strconv"
	"strings"
	"testing"

	"argosy/api"
	"argosy/plan"
	"argosy/state"
	"argosy/task"
	"argosy/trace"
)

// A trace is written as pieces between blanks: a letter is an item's number (a is 1, @ is 0), a digit behind it the try in which it was undone, and + or - says whether that went well.

func effectOf(piece string) api.Effect {
	x := api.Effect{Key: api.Key{Item: int(piece[0]) - 'a' + 1}, Ok: strings.HasSuffix(piece, "+")}
	if piece[0] == '@' {
		x.Key.Item = 0
	}
	if len(piece) == 3 {
		x.Key.Undo, x.Key.Try = true, int(piece[1]-'0')
	}
	return x
}

func traced(text string) []api.Effect {
	var l []api.Effect
	for _, piece := range strings.Fields(text) {
		l = append(l, effectOf(piece))
	}
	return l
}

// textOf tells a trace, items by their numbers.
func textOf(l []api.Effect) string {
	var pieces []string
	for _, x := range l {
		piece := strconv.Itoa(x.Key.Item)
		if x.Key.Undo || x.Key.Try != 0 {
			piece += "~" + strconv.Itoa(x.Key.Try)
		}
		pieces = append(pieces, piece+map[bool]string{true: "+", false: "-"}[x.Ok])
	}
	return strings.Join(pieces, " ")
}

// scripted tells a script that is written as pieces between blanks: a letter is an item, - says that it fails, a digit how often undoing it fails.
func scripted(text string) []byte {
	var s []byte
	for _, piece := range strings.Fields(text) {
		i := int(piece[0]) - 'a' + 1
		for len(s) <= i {
			s = append(s, 0)
		}
		for _, c := range []byte(piece[1:]) {
			if c == '-' {
				s[i] |= 4
			} else {
				s[i] |= c - '0'
			}
		}
	}
	return s
}

// The example of the chapter.
func TestExamples(t *testing.T) {
	for _, text := range []string{"a- b+ b0+", "b+ a- b0+", "a-"} {
		accepts(t, "a b", "a-", text, api.Failed)
	}
	g := sagaOf(t, "a b")
	if l, v, e := Run(g.plan, scripted("a-"), nil); !slices.Equal(l, traced("a-")) || v != api.Failed || e != api.OK {
		t.Error(textOf(l), v, e)
	}
	if l, v, e := Run(g.plan, scripted("a-"), []int{1}); !slices.Equal(l, traced("b+ a- b0+")) || v != api.Failed || e != api.OK {
		t.Error(textOf(l), v, e)
	}
}

// accepts holds that a trace may be, and the verdict then.
func accepts(t *testing.T, form, script, text string, want api.Status) {
	t.Helper()
	l := traced(text)
	if v, n, e := Accept(sagaOf(t, form).plan, scripted(script), l); v != want || n != len(l) || e != api.OK {
		t.Errorf("%s, script %q: Accept %s: %d, %d, %d; want %d, %d", form, script, text, v, n, e, want, len(l))
	}
}

// refuses holds that a trace may not be, and from which place on.
func refuses(t *testing.T, p api.Plan, s []byte, l []api.Effect, want int) {
	t.Helper()
	if v, at, e := Accept(p, s, l); v != 0 || at != want || e != api.ErrState {
		t.Errorf("%v, script %v: Accept %s: %d, %d, %d; want %d", p, s, textOf(l), v, at, e, want)
	}
}

// may are traces that may be, with the verdict then.
var may = []struct {
	form, script, text string
	verdict            api.Status
}{
	// None, and some that stop early.
	{"a b", "", "", api.Running},
	{"a b", "a- b-", "", api.Running},
	{"a b", "", "a+", api.Running},
	{"a b", "", "b+", api.Running},
	{"a b", "", "b+ a+", api.Done},
	{"a b", "a-", "b+ a-", api.Running},
	{"a b", "a-", "a- b+", api.Running},
	{"a b | c", "b-", "a+ b- a0+", api.Running},
	{"a b", "a- b3", "b+ a- b0- b1- b2-", api.Running},
	// What is on its way when another one fails is awaited, and undone, unless it fails, too; what never began is not.
	{"a b", "a- b-", "a- b-", api.Failed},
	{"a b", "a- b-", "b- a-", api.Failed},
	{"a b", "a- b-", "b-", api.Failed},
	{"a b", "a- b3", "b+ a- b0- b1- b2- b3+", api.Failed},
	{"a b", "a- b3", "a- b+ b0- b1- b2- b3+", api.Failed},
	{"a b c", "b-", "b- c+ a+ c0+ a0+", api.Failed},
	{"a b c", "b-", "a+ b- a0+ c+ c0+", api.Failed},
	{"a b c", "b-", "a+ b- a0+", api.Failed},
	{"a b<a c", "c-", "a+ c- a0+", api.Failed},
	{"a b<a c", "c-", "a+ b+ c- b0+ a0+", api.Failed},
	{"a b<a c", "c-", "a+ c- b+ b0+ a0+", api.Failed},
	{"a b<a c", "c-", "c-", api.Failed},
	{"a b<a c", "c-", "c- a+ a0+", api.Failed},
	{"a b c<b", "a-", "b+ a- c+ c0+ b0+", api.Failed},
	{"a b c<b", "a- c-", "b+ a- c- b0+", api.Failed},
	// The next body.
	{"a | b", "a-", "a- b+", api.Done},
	{"a | b", "a- b-", "a- b-", api.Failed},
	{"a | b", "b-", "a+", api.Done},
	{"a b | c", "b-", "a+ b- a0+ c+", api.Done},
	{"a b | c", "b-", "b- a+ a0+ c+", api.Done},
	{"a b | c", "b-", "b- c+", api.Done},
	{"a b | c d", "b- c-", "b- c- d+ d0+", api.Failed},
	// Sagas within.
	{"La ( b ) c<a", "b-", "b- c+", api.Done},
	{"La ( b ) c", "b-", "c+ b-", api.Done},
	{"La ( b ) c", "", "c+", api.Running},
	{"Va ( b ) c<a", "b-", "b-", api.Failed},
	{"Va ( b ) c", "b-", "c+ b- c0+", api.Failed},
	{"Va ( b ) c", "b-", "b- c+ c0+", api.Failed},
	{"a Vb ( c )", "a-", "a- c+ c0+", api.Failed},
	{"a Lb ( c )", "a-", "c+ a- c0+", api.Failed},
	{"a Lb ( c )", "a- c-", "a- c-", api.Failed},
	{"La ( b ) c<a | d", "c-", "b+ c- b0+ d+", api.Done},
	{"a Vb<a ( c | d ) e<b", "c- d-", "a+ c- d- a0+", api.Failed},
	{"a Vb<a ( c | d ) e<b", "c- d1 e-", "a+ c- d+ e- d0- d1+ a0+", api.Failed},
	{"La ( Vb ( c | d ) e ) f<a", "c- d- e2", "e+ c- d- e0- e1- e2+ f+", api.Done},
	{"La ( Vb ( c | d ) e ) f<a", "c- d- e2", "c- e+ d- e0- e1- e2+ f+", api.Done},
	{"La ( Vb ( c | d ) e ) f<a", "c- d- e2", "c- d- f+", api.Done},
	{"La ( Lb ( c | d ) e<b | f g ) h<a", "c- d- e- g-", "c- d- e- f+ g- f0+ h+", api.Done},
	{"La ( Lb ( c | d ) e<b | f g ) h<a", "c- d- e- g-", "c- d- e- g- h+", api.Done},
	{"La ( Lb ( c | d ) e<b | f g ) h<a", "c- d- e- g-", "c- d- e- g- f+ f0+ h+", api.Done},
}

// P21.1: what may be, how many effects there are, and how the saga stands then.
func TestAccept(t *testing.T) {
	for _, c := range may {
		accepts(t, c.form, c.script, c.text, c.verdict)
	}
}

// P21.1: with no effects nothing began, whatever the script says, and however long it is.
func TestAcceptNone(t *testing.T) {
	for _, form := range forms {
		for _, s := range [][]byte{nil, {}, {4, 4, 4, 4, 4, 4, 4}, make([]byte, 200)} {
			for _, l := range [][]api.Effect{nil, {}} {
				if v, n, e := Accept(sagaOf(t, form).plan, s, l); v != api.Running || n != 0 || e != api.OK {
					t.Error(form, s, v, n, e)
				}
			}
		}
	}
}

// P21.1: the place of the first effect of which the key is not open, or that did not go as the script says.
func TestAcceptPlace(t *testing.T) {
	for _, c := range []struct {
		form, script, text string
		at                 int
	}{
		// The key may not begin yet, or not at all.
		{"a b<a", "", "b+", 0},
		{"a b<a", "", "b+ a+", 0},
		{"a b<a c<b", "", "a+ c+ b+", 1},
		{"a b<a c<b", "", "a+ b+ c0+", 2},
		{"a b<a", "", "a0+ a+", 0},
		{"a b<a", "", "a+ a0+", 1},
		{"a b<a", "a-", "a- a0+", 1},
		{"a b<a", "a-", "a- b+", 1},
		{"a b c<b", "a-", "a- b+ c+", 2},
		{"a | b", "", "b+", 0},
		{"a | b", "", "a+ b+", 1},
		{"a | b", "a-", "b+ a-", 0},
		{"a b | c", "b-", "a+ c+", 1},
		{"a b | c", "b-", "a+ b- c+ a0+", 2},
		{"a Lb<a ( c )", "", "c+ a+", 0},
		{"La ( b ) c<a", "b-", "c+ b-", 0},
		{"Va ( b ) c<a", "b-", "b- c+", 1},
		// It went otherwise than the script says.
		{"a b<a", "", "a-", 0},
		{"a b<a", "", "a+ b-", 1},
		{"a b<a", "b-", "a+ b+", 1},
		{"a b<a", "b-", "a+ b- a0-", 2},
		{"a b<a", "a1 b-", "a+ b- a0+", 2},
		{"a b<a", "a1 b-", "a+ b- a0- a1-", 3},
		{"a b<a", "a3 b-", "a+ b- a0- a1- a2- a3-", 5},
		// Another try is on its way, or none is.
		{"a b<a", "a1 b-", "a+ b- a1+", 2},
		{"a b<a", "a2 b-", "a+ b- a0- a2+", 3},
		{"a b<a", "a2 b-", "a+ b- a0- a0-", 3},
		{"a b<a", "b-", "a+ b- a0+ a1+", 3},
		{"a", "a-", "a- a0+", 1},
		// It stands twice.
		{"a b", "", "a+ a+", 1},
		{"a b", "", "a+ b+ a+", 2},
		{"a b", "a-", "a- b+ b0+ b0+", 3},
		{"a b", "a- b-", "a- b- a-", 2},
		// What it is leaned on by was not undone, or is still on its way: then it is not undone itself.
		{"a b<a c", "c-", "a+ b+ c- a0+ b0+", 3},
		{"a b<a c", "c-", "a+ c- a0+ b+ b0+", 2},
		{"a b<a c", "c-", "a+ c- a0+ b+", 2},
		{"a b<a c", "c-", "a+ c- a0+ b-", 2},
		{"a b<a c", "c-", "a+ b+ c- b0+ a0+ b0+", 5},
		{"a Lb<a ( c ) d", "d-", "a+ d- a0+ c+", 2},
		{"La ( b ) c<a d", "d-", "b+ c+ d- b0+ c0+", 3},
		// A body of which something is still to come goes on until that ends.
		{"a b | c", "b-", "b- c+ a+", 1},
		{"a b | c", "b-", "b- c+ a-", 1},
		{"La ( b c ) d<a", "b-", "b- d+ c+", 1},
		// Of several the first one.
		{"a b<a", "", "b+ a- a0+ b0+", 0},
		{"a b<a c<b", "", "a+ b- b- c+", 1},
		{"a b<a c<b", "", "a+ c+ b- a+", 1},
	} {
		refuses(t, sagaOf(t, c.form).plan, scripted(c.script), traced(c.text), c.at)
	}
}

// P21.1: of a trace that may be all that go wrong at one place: there it is refused, be it the first, one in the middle or the last.
func TestAcceptTurned(t *testing.T) {
	var never []api.Key
	for _, item := range []int{math.MinInt, -1, 0, 64, 1<<32 + 1, math.MaxInt} {
		never = append(never, api.Key{Item: item}, api.Key{Item: item, Undo: true})
	}
	for _, try := range []int{math.MinInt, -1, 4, math.MaxInt} {
		never = append(never, api.Key{Item: 1, Try: try}, api.Key{Item: 1, Undo: true, Try: try}, api.Key{Item: 2, Undo: true, Try: try})
	}
	for _, c := range may {
		g, s, l := sagaOf(t, c.form), scripted(c.script), traced(c.text)
		all := append([]api.Key{{Item: len(g.nodes)}, {Item: len(g.nodes), Undo: true}}, never...)
		for i, n := range g.nodes {
			if n.sub {
				all = append(all, api.Key{Item: i}, api.Key{Item: i, Undo: true})
			}
		}
		for at := range len(l) + 1 {
			for _, k := range all {
				for _, ok := range []bool{false, true} {
					refuses(t, g.plan, s, slices.Insert(slices.Clone(l), at, api.Effect{Key: k, Ok: ok}), at)
				}
			}
			for ahead := range at {
				refuses(t, g.plan, s, slices.Insert(slices.Clone(l), at, l[ahead]), at)
			}
		}
		for at := range l {
			turned := slices.Clone(l)
			turned[at].Ok = !turned[at].Ok
			refuses(t, g.plan, s, turned, at)
		}
	}
}

// P21.1, P21.2: what is done, whoever is picked, and how the saga stands then.
func TestRun(t *testing.T) {
	for _, c := range []struct {
		form, script string
		picks        []int
		text         string
		verdict      api.Status
	}{
		{"a", "", nil, "a+", api.Done},
		{"a", "a-", nil, "a-", api.Failed},
		{"a", "a3", nil, "a+", api.Done},
		// By items rising, unless it is picked otherwise.
		{"a b c", "", nil, "a+ b+ c+", api.Done},
		{"a b c", "", []int{}, "a+ b+ c+", api.Done},
		{"a b c", "", []int{0, 0, 0}, "a+ b+ c+", api.Done},
		{"a b c", "", []int{1}, "b+ a+ c+", api.Done},
		{"a b c", "", []int{2}, "c+ a+ b+", api.Done},
		{"a b c", "", []int{1, 1}, "b+ c+ a+", api.Done},
		{"a b c", "", []int{0, 1, 1}, "a+ c+ b+", api.Done},
		{"a b c", "", []int{3}, "a+ b+ c+", api.Done},
		{"a b c", "", []int{3, 2, 1}, "a+ b+ c+", api.Done},
		{"a b c", "", []int{5, 5, 5}, "c+ b+ a+", api.Done},
		{"a b c", "", []int{-1}, "c+ a+ b+", api.Done},
		{"a b c", "", []int{-1, -1, -1}, "c+ b+ a+", api.Done},
		{"a b c", "", []int{-2, -2}, "b+ a+ c+", api.Done},
		{"a b c", "", []int{-3, -3}, "a+ c+ b+", api.Done},
		{"a b c", "", []int{-4}, "c+ a+ b+", api.Done},
		{"a b c", "", []int{2, 0, 0, 5, 6, 7}, "c+ a+ b+", api.Done},
		// Nothing is on its way when something fails.
		{"a b c", "b-", nil, "a+ b- a0+", api.Failed},
		{"a b c", "b-", []int{1}, "b-", api.Failed},
		{"a b c", "b-", []int{2}, "c+ a+ b- a0+ c0+", api.Failed},
		{"a b c", "b-", []int{2, 0, 0, 1}, "c+ a+ b- c0+ a0+", api.Failed},
		{"a b c", "b-", []int{2, 1}, "c+ b- c0+", api.Failed},
		// Undoing fails, and is tried again, perhaps behind that of another step.
		{"a b<a", "b- a3", nil, "a+ b- a0- a1- a2- a3+", api.Failed},
		{"a b c<a,b", "c- a1 b2", nil, "a+ b+ c- a0- a1+ b0- b1- b2+", api.Failed},
		{"a b c<a,b", "c- a1 b2", []int{0, 0, 0, 1, 1, 1}, "a+ b+ c- b0- b1- b2+ a0- a1+", api.Failed},
		{"a b c<a,b", "c- a1 b2", []int{0, 0, 0, 0, 1, 0}, "a+ b+ c- a0- b0- a1+ b1- b2+", api.Failed},
		{"a b<a c<b", "c- a1 b1", []int{9, 9, 9, 9, 9, 9, 9}, "a+ b+ c- b0- b1+ a0- a1+", api.Failed},
		// Bodies, and sagas within.
		{"a b | c", "b-", nil, "a+ b- a0+ c+", api.Done},
		{"a b | c", "b-", []int{1}, "b- c+", api.Done},
		{"a b | c | d", "b- c-", nil, "a+ b- a0+ c- d+", api.Done},
		{"a b | c", "b- c- a2", nil, "a+ b- a0- a1- a2+ c-", api.Failed},
		{"La ( b ) c<a", "b-", nil, "b- c+", api.Done},
		{"La ( b | c ) d", "b-", []int{1}, "d+ b- c+", api.Done},
		{"Va ( b ) c", "b-", []int{1}, "c+ b- c0+", api.Failed},
		{"Va ( b ) c", "b-", nil, "b-", api.Failed},
		{"a Vb<a ( c | d ) e<b", "c- d1 e-", nil, "a+ c- d+ e- d0- d1+ a0+", api.Failed},
		{"La ( Vb ( c | d ) e ) f<a", "c- d- e2", nil, "c- d- f+", api.Done},
		{"La ( Vb ( c | d ) e ) f<a", "c- d- e2", []int{1}, "e+ c- d- e0- e1- e2+ f+", api.Done},
		{"La ( Lb ( c | d ) e<b | f g ) h<a", "c- d- e- g-", nil, "c- d- e- f+ g- f0+ h+", api.Done},
		{"La ( b ) c<a | d", "c-", nil, "b+ c- b0+ d+", api.Done},
	} {
		g, s, want := sagaOf(t, c.form), scripted(c.script), traced(c.text)
		if l, v, e := Run(g.plan, s, c.picks); !slices.Equal(l, want) || v != c.verdict || e != api.OK {
			t.Errorf("%s, script %q: Run %v: %s, %d, %d; want %s, %d", c.form, c.script, c.picks, textOf(l), v, e, c.text, c.verdict)
		}
		if v := Ends(g.plan, s); v != c.verdict {
			t.Errorf("%s, script %q: Ends %d; want %d", c.form, c.script, v, c.verdict)
		}
		g.expectMayBe(t, s, want)
	}
}

// P21.2: of any pick what is left of it modulo how many keys there are, from 0 on, of one below 0, too.
func TestPicks(t *testing.T) {
	all := []int{math.MinInt, math.MinInt + 1, math.MinInt + 2, -1 << 32, -1<<31 - 1, math.MaxInt - 2, math.MaxInt - 1, math.MaxInt, 1 << 31, 1 << 32, 1<<32 + 1}
	for i := -20; i <= 20; i++ {
		all = append(all, i)
	}
	for _, n := range []int{1, 2, 3, 5, 7, api.MaxWidth} {
		var names []string
		for i := range n {
			names = append(names, "n"+strconv.Itoa(i))
		}
		g := sagaOf(t, strings.Join(names, " "))
		for _, pick := range all {
			at := new(big.Int).Mod(big.NewInt(int64(pick)), big.NewInt(int64(n)))
			l, v, e := Run(g.plan, nil, []int{pick})
			if len(l) != n || l[0].Key.Item != int(at.Int64())+1 || v != api.Done || e != api.OK {
				t.Fatal(n, pick, textOf(l), v, e)
			}
		}
	}
}

// P21.1 to P21.3: what a script says of an item is its byte's three lowest bits; of the saga and of sagas within, and of items that are none, it says nothing.
func TestScripts(t *testing.T) {
	more := slices.Repeat([]byte{7}, 300)
	for _, c := range []struct {
		form string
		s    []byte
		text string
	}{
		{"a b", nil, "a+ b+"},
		{"a b", []byte{}, "a+ b+"},
		{"a b", []byte{7}, "a+ b+"},
		{"a b", []byte{7, 3}, "a+ b+"},
		{"a b", []byte{0, 4}, "a-"},
		{"a b", []byte{0, 0xf8}, "a+ b+"},
		{"a b", []byte{0, 0xfc}, "a-"},
		{"a b", []byte{0, 0, 4}, "a+ b- a0+"},
		{"a b", []byte{0, 0xf9, 0xff}, "a+ b- a0- a1+"},
		{"a b", []byte{0, 3, 0}, "a+ b+"},
		{"a b", append([]byte{7, 0, 0}, more...), "a+ b+"},
		{"a b", append([]byte{7, 1, 4}, more...), "a+ b- a0- a1+"},
		{"Va ( b )", []byte{7, 7}, "b+"},
		{"Va ( b )", append([]byte{7, 7, 0}, more...), "b+"},
		{"La ( b ) c", append([]byte{7, 7, 4, 3}, more...), "b- c+"},
	} {
		g, want := sagaOf(t, c.form), traced(c.text)
		l, v, e := Run(g.plan, c.s, nil)
		if !slices.Equal(l, want) || e != api.OK || v != Ends(g.plan, c.s) {
			t.Errorf("%s, script %v: Run %s, %d, %d; want %s", c.form, c.s, textOf(l), v, e, c.text)
		}
		g.expectMayBe(t, c.s, want)
	}
}

// P21.3, P21.5: how sagas end, and that they end so, whatever is picked.
func TestEnds(t *testing.T) {
	for _, c := range []struct {
		form, fails string
		want        api.Status
	}{
		{"a", "", api.Done},
		{"a", "a-", api.Failed},
		{"a b", "b-", api.Failed},
		{"a b<a", "a- b-", api.Failed},
		{"a | b", "a-", api.Done},
		{"a | b", "b-", api.Done},
		{"a | b", "a- b-", api.Failed},
		{"a b | c d | e", "b- c-", api.Done},
		{"a b | c d | e", "b- c- e-", api.Failed},
		{"Va ( b )", "b-", api.Failed},
		{"La ( b )", "b-", api.Done},
		{"Va ( b ) | c", "b-", api.Done},
		{"Va ( b | c ) d", "b-", api.Done},
		{"Va ( b | c ) d", "b- c-", api.Failed},
		{"La ( b | c ) d", "b- c-", api.Done},
		{"La ( b | c ) d", "b- c- d-", api.Failed},
		{"La ( Vb ( c ) d<b )", "c-", api.Done},
		{"Va ( Lb ( c ) d<b )", "c-", api.Done},
		{"Va ( Lb ( c ) d<b )", "c- d-", api.Failed},
		{"Va ( Vb ( c ) d<b )", "c-", api.Failed},
		{"Va ( Vb ( c ) d<b | e )", "c-", api.Done},
	} {
		g, s := sagaOf(t, c.form), scripted(c.fails)
		if v := Ends(g.plan, s); v != c.want {
			t.Errorf("%s, script %q: Ends %d; want %d", c.form, c.fails, v, c.want)
		}
		for picks := range func(yield func(picks []int) bool) { g.choices(s, yield) } {
			if _, v, e := Run(g.plan, s, picks); v != c.want || e != api.OK {
				t.Errorf("%s, script %q: Run %v: %d, %d; want %d", c.form, c.fails, picks, v, e, c.want)
			}
		}
	}
}

// P21.6: what is left: of a saga that failed nothing; of one that is done what stands in the bodies in which it is, and the sagas in it that are done.
func TestLeft(t *testing.T) {
	for _, c := range []struct {
		form, script string
		left         []int
	}{
		{"a", "", []int{1}},
		{"a", "a-", nil},
		{"a b<a c", "c- a2 b3", nil},
		{"a b | c d", "b-", []int{3, 4}},
		{"a b | c d", "b- d- a1", nil},
		{"La ( b c ) d", "", []int{2, 3, 4}},
		{"La ( b c ) d", "c- b2", []int{4}},
		{"La ( b c ) d<a", "c- d-", nil},
		{"La ( b | c d ) e", "b-", []int{3, 4, 5}},
		{"Va ( Lb ( c ) d<b | e )", "d-", []int{5}},
		{"Va ( Lb ( c | d ) e<b )", "c-", []int{4, 5}},
		{"Va ( Lb ( c | d ) e<b )", "c- d-", []int{5}},
		{"La ( Vb ( c ) d ) e<a | f", "e- c1 d1", []int{6}},
		{"La ( Vb ( c d ) e ) f", "d-", []int{6}},
		{"La ( Lb ( c d ) e ) f", "d-", []int{5, 6}},
	} {
		g, s := sagaOf(t, c.form), scripted(c.script)
		for picks := range func(yield func(picks []int) bool) { g.choices(s, yield) } {
			l, v, e := Run(g.plan, s, picks)
			if !slices.Equal(trace.Left(l), c.left) || (v == api.Failed) != (c.left == nil) || e != api.OK {
				t.Errorf("%s, script %q: %s leaves %v, %d, %d; want %v", c.form, c.script, textOf(l), trace.Left(l), v, e, c.left)
			}
			if !slices.Equal(stand(t, g, l), c.left) {
				t.Errorf("%s, script %q: %s: in what is done stand %v; want %v", c.form, c.script, textOf(l), stand(t, g, l), c.left)
			}
		}
	}
}

// stand tells which steps stand in the bodies in which sagas are that are done, and in such alone.
func stand(t *testing.T, g saga, l []api.Effect) []int {
	t.Helper()
	known, e := make([]api.Fact, len(g.nodes)), api.OK
	for _, x := range l {
		known, e = task.Begin(g.plan, known, x.Key)
		if e == api.OK {
			known, e = task.End(g.plan, known, x.Key, x.Ok)
		}
		if e != api.OK {
			t.Fatal(textOf(l), e)
		}
	}
	b, _ := state.See(g.plan, known)
	var in []int
	for i, x := range g.plan.Items {
		stands := !x.Sub
		for ; i > 0 && stands; i = g.plan.Items[i].In {
			s := g.plan.Items[i].In
			stands = b.All()[s] == api.Done && b.At(s) == g.plan.Items[i].Alt
		}
		if stands {
			in = append(in, slices.IndexFunc(g.plan.Items, func(y api.Item) bool { return y.Name == x.Name }))
		}
	}
	return in
}

// wrong are plans that are not right.
func wrong(t testing.TB) []api.Plan {
	p := sagaOf(t, "a b<a Lc ( d | e )").plan
	l := []api.Plan{{}, {Items: []api.Item{}}, {Items: p.Items[:1]}, {Items: p.Items[1:]}, {Items: p.Items[:4]}, {Items: slices.Concat(p.Items, p.Items[1:2])}, {Items: make([]api.Item, 70)}}
	for _, turn := range []func(x []api.Item){
		func(x []api.Item) { x[0].Alts = 2 },
		func(x []api.Item) { x[0].In = 0 },
		func(x []api.Item) { x[1].Undo = "" },
		func(x []api.Item) { x[1].Name = "b" },
		func(x []api.Item) { x[1].After = []int{2} },
		func(x []api.Item) { x[1].Vital = true },
		func(x []api.Item) { x[2].In = 1 },
		func(x []api.Item) { x[2].Sub = true },
		func(x []api.Item) { x[2].After = []int{7} },
		func(x []api.Item) { x[3].Alts = 3 },
		func(x []api.Item) { x[3].Undo = "u" },
		func(x []api.Item) { x[4].Alt = -1 },
		func(x []api.Item) { x[5].Alt = math.MaxInt },
		func(x []api.Item) { x[5].In = math.MinInt },
	} {
		q := slices.Clone(p.Items)
		turn(q)
		l = append(l, api.Plan{Items: q})
	}
	return l
}

// P21.1 to P21.3: a plan that is not right, one without steps among them, is told ahead of all else.
func TestWrongPlans(t *testing.T) {
	for i, p := range wrong(t) {
		if plan.Right(p) {
			t.Fatal(i, p)
		}
		for _, s := range [][]byte{nil, {0, 4}, {4, 4, 4, 4, 4, 4}, {0, 0, 7, 0, 0, 0, 0, 0}} {
			for _, text := range []string{"", "a+", "a-", "a+ b+", "@+", "b+", "a0+", "z+ z+ a-"} {
				if v, n, e := Accept(p, s, traced(text)); v != 0 || n != 0 || e != api.ErrArg {
					t.Errorf("%d: Accept %s: %d, %d, %d", i, text, v, n, e)
				}
			}
			for _, picks := range [][]int{nil, {0}, {-1, 5, math.MinInt, math.MaxInt}} {
				if l, v, e := Run(p, s, picks); len(l) != 0 || v != 0 || e != api.ErrArg {
					t.Errorf("%d: Run %v: %s, %d, %d", i, picks, textOf(l), v, e)
				}
			}
			if v := Ends(p, s); v != 0 {
				t.Errorf("%d: Ends %d", i, v)
			}
		}
	}
}

func sameItem(a, b api.Item) bool {
	return a.Name == b.Name && a.Undo == b.Undo && a.Sub == b.Sub && a.Vital == b.Vital && a.Alts == b.Alts && a.In == b.In && a.Alt == b.Alt && slices.Equal(a.After, b.After)
}

// What is handed in stays as it is, and so does what stands behind its end; what is given back is new memory.
func TestApart(t *testing.T) {
	g := sagaOf(t, "a b<a Lc ( d | e ) f")
	kept := slices.Clone(g.plan.Items)
	for i, x := range kept {
		kept[i].After = slices.Clone(x.After)
	}
	script := []byte{0, 1, 2, 0, 4, 3, 4, 4, 4}
	picks := []int{-7, 3, 9, 0, 1, 1, 1, 5, 5, 5}
	whole, _, _ := Run(g.plan, script[:7], picks[:4])
	for n := range len(whole) + 1 {
		s, l, c := slices.Clone(script), slices.Clone(whole), slices.Clone(picks)
		Accept(g.plan, s[:7], l[:n])
		Ends(g.plan, s[:7])
		run, _, _ := Run(g.plan, s[:7], c[:4])
		more, _, _ := Run(g.plan, s[:7], c[:4])
		if !slices.Equal(s, script) || !slices.Equal(l, whole) || !slices.Equal(c, picks) || !slices.EqualFunc(g.plan.Items, kept, sameItem) {
			t.Fatal(n, "turned what was handed in")
		}
		clear(run[:cap(run)])
		clear(s)
		clear(c)
		if !slices.Equal(more, whole) || !slices.Equal(l, whole) {
			t.Fatal(n, textOf(more), "shares memory")
		}
	}
}

// P21.1, P21.2: as many items as there may be, each undone at the last try, and sagas as deep as they may be.
func TestGreat(t *testing.T) {
	var pieces []string
	var s []byte
	for i := range api.MaxItems - 1 {
		if i%16 > 0 {
			pieces = append(pieces, "n"+strconv.Itoa(i)+"<n"+strconv.Itoa(i-1))
		} else if pieces = append(pieces, "|", "n"+strconv.Itoa(i)); i == 0 {
			pieces = pieces[1:]
		}
		s = append(s, 3)
	}
	s = append(s, 7)
	s[16], s[32], s[48] = 7, 7, 7
	g := sagaOf(t, strings.Join(pieces, " "))
	l, v, e := Run(g.plan, s, nil)
	if len(l) != 63+4*59 || v != api.Failed || e != api.OK {
		t.Fatal(len(l), v, e)
	}
	if v, n, e := Accept(g.plan, s, l); v != api.Failed || n != len(l) || e != api.OK {
		t.Fatal(v, n, e)
	}
	const deep = "Va ( Lb ( Vc ( Ld ( Ve ( f g ) h ) i ) j ) k ) l"
	for script, want := range map[string]string{
		"":            "f+ g+ h+ i+ j+ k+ l+",
		"g- f1":       "f+ g- f0- f1+ i+ j+ k+ l+",
		"g- f1 i-":    "f+ g- f0- f1+ i- k+ l+",
		"g- i- j- k-": "f+ g- f0+ i- k-",
		"l- f1 k1":    "f+ g+ h+ i+ j+ k+ l- f0- f1+ g0+ h0+ i0+ j0+ k0- k1+",
	} {
		if l, _, e := Run(sagaOf(t, deep).plan, scripted(script), nil); !slices.Equal(l, traced(want)) || e != api.OK {
			t.Errorf("script %q: %s, %d; want %s", script, textOf(l), e, want)
		}
	}
}

// P21.1: a trace that is long beyond what may be is refused where it goes wrong.
func TestLong(t *testing.T) {
	g := sagaOf(t, "a b<a c")
	for _, c := range []struct {
		script, head, tail string
		at                 int
	}{
		{"", "", "b+", 0},
		{"", "a+ b+ c+", "a+", 3},
		{"c-", "a+ b+ c- b0+ a0+", "z+ @- b+ c0+", 5},
		{"c-", "a+ c- a0+", "z+ @- c+ c0+", 3},
		{"c-", "a+ c- a0+", "z+ @- b+ c0+", 2},
	} {
		l := append(traced(c.head), slices.Repeat(traced(c.tail), 100000)...)
		refuses(t, g.plan, scripted(c.script), l[:min(len(l), 400000)], c.at)
	}
}
