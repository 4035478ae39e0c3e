package cause

import (
	"math"
	"slices"
	"strconv"
	"strings"
	"testing"

	"argosy/api"
	"argosy/plan"
)

// letters tells items by the letters that stand for them.
func letters(l []int) string {
	s := ""
	for _, i := range l {
		s += string(rune('a' + i - 1))
	}
	return s
}

// The chapter's example: a is 1, s is 2, b is 3, c is 4, d is 5.
func TestExamples(t *testing.T) {
	p := made(t, "saga t { ( step a undo u ; loose sub s after a { ( step b undo u ; ) or ( step c undo u ; ) } step d undo u after s ; ) }")
	for _, x := range []struct {
		k    api.Key
		want []int
	}{
		{api.Key{Item: 4}, []int{1, 3}},
		{api.Key{Item: 5}, []int{3, 4}},
		{api.Key{Item: 4, Undo: true}, []int{1, 3, 4, 5}},
	} {
		if l := Of(p, x.k); !slices.Equal(l, x.want) {
			t.Error(x.k, l)
		}
	}
}

// holdCauses holds a form's causes against a text: of each step its letter, =, and its causes' letters.
func holdCauses(t *testing.T, form, text string, undo bool) {
	t.Helper()
	g := sagaOf(t, form)
	steps := within(g.nodes[0])
	for _, piece := range strings.Fields(text) {
		name, want, _ := strings.Cut(piece, "=")
		i := g.named(name).number
		steps = slices.DeleteFunc(steps, func(j int) bool { return i == j })
		if l := Of(g.plan, api.Key{Item: i, Undo: undo}); letters(l) != want {
			t.Errorf("%s: causes of %s: %s, want %s", form, name, letters(l), want)
		}
	}
	if len(steps) > 0 {
		t.Error(form, "not told of", letters(steps))
	}
}

// P22.1: the causes of keys without Undo.
func TestOf(t *testing.T) {
	for _, x := range [][2]string{
		// What leans on nothing, and on steps: on those that its After names alone, ahead of it or behind it.
		{"a", "a="},
		{"a b", "a= b="},
		{"a b<a c<b d<a,c", "a= b=a c=b d=ac"},
		{"a<b,c b<c c", "a=bc b=c c="},
		{"a b c<b,a", "a= b= c=ab"},
		// On a sub-saga: all steps in it, in all its bodies, and in the sagas in these.
		{"a Lb<a ( c | d ) e<b", "a= c=a d=ac e=cd"},
		{"a Vb<a ( c d<c | e ) f<b", "a= c=a d=ac e=acd f=cde"},
		{"Va ( b Lc ( d | e ) | f Vg ( h ) ) i<a j<i", "b= d= e=d f=bde h=bde i=bdefh j=i"},
		{"a<b Lb ( Vc ( Ld ( e | f ) ) )", "a=ef e= f=e"},
		{"a Lb ( c ) d<a,b e<b", "a= c= d=ac e=c"},
		// In a saga that leans on something, and in one within it.
		{"a Vb<a ( c Vd ( e f<e ) )", "a= c=a e=a f=ae"},
		{"a Vb<a ( c Vd<c ( e ) )", "a= c=a e=ac"},
		{"a b Vc<a ( Ld ( Ve<g ( f ) g<h h ) )", "a= b= f=ag g=ah h=a"},
		{"a Lb<a ( Lc ( Ld ( e ) f ) ) g Lh<g,b ( i )", "a= e=a f=a g= i=efg"},
		// In a second and a third body: those in the bodies ahead, and in sagas in them.
		{"a b | c | d<e e", "a= b= c=ab d=abce e=abc"},
		{"a Lb ( c | d ) | e", "a= c= d=c e=acd"},
		{"a | b | c | d", "a= b=a c=ab d=abc"},
		{"Va ( b | Lc ( d | e ) | f )", "b= d=b e=bd f=bde"},
		// The same for a saga in which it stands.
		{"a | Vb ( c | d )", "a= c=a d=ac"},
		{"a Vb ( c ) | d Le ( f Vg ( h | i ) )", "a= c= d=ac f=ac h=ac i=ach"},
		{"Va ( b | Vc ( d | Ve ( f | g ) ) )", "b= d=b f=bd g=bdf"},
		{"Va ( b | Vc ( d | Ve ( f ) | g ) | h )", "b= d=b f=bd g=bdf h=bdfg"},
		// Neither what stands beside it, nor what comes behind it.
		{"a b Vc ( d e ) f | g", "a= b= d= e= f= g=abdef"},
		{"La ( b | c ) Ld ( e | f )", "b= c=b e= f=e"},
		// Both: what leans stands in a later body.
		{"a | Vb ( c | d e<d ) f<b", "a= c=a d=ac e=acd f=acde"},
	} {
		holdCauses(t, x[0], x[1], false)
	}
}

// P22.1: with Undo: all of the saga's own body in which the item stands, itself too.
func TestOfUndo(t *testing.T) {
	for _, x := range [][2]string{
		{"a", "a=a"},
		{"a b", "a=ab b=ab"},
		{"a b<a", "a=ab b=ab"},
		{"a Lb<a ( c | d ) e<b", "a=acde c=acde d=acde e=acde"},
		{"a | b", "a=a b=b"},
		{"a | b Vc ( d | e ) f | g", "a=a b=bdef d=bdef e=bdef f=bdef g=g"},
		{"Va ( Lb ( c | d Ve ( f ) ) | g ) h | i", "c=cdfgh d=cdfgh f=cdfgh g=cdfgh h=cdfgh i=i"},
	} {
		holdCauses(t, x[0], x[1], true)
	}
}

// anyInts are numbers at all edges.
func anyInts() []int {
	return []int{math.MinInt, math.MinInt + 1, -1 << 32, -3, -2, -1, 0, 1, 2, 3, 4, 63, 64, 1 << 32, math.MaxInt - 1, math.MaxInt}
}

// P22.1 to P22.3: a key's Try says nothing, with Undo and without.
func TestTries(t *testing.T) {
	g := sagaOf(t, "a Lb<a ( c | d ) e<b | f")
	last := [][]int{{9}, {1}, {8}, {0, 2}, {3, 1}, {4}, {0, 0, 7}}
	facts := slices.Repeat([]api.Fact{{Run: api.RunOk}}, 7)
	for _, try := range anyInts() {
		for i := range g.nodes {
			for _, undo := range []bool{false, true} {
				k, plain := api.Key{Item: i, Undo: undo, Try: try}, api.Key{Item: i, Undo: undo}
				if !slices.Equal(Of(g.plan, k), Of(g.plan, plain)) || !slices.Equal(Stamp(g.plan, k, last), Stamp(g.plan, plain, last)) || !slices.Equal(Only(g.plan, k, facts), Only(g.plan, plain, facts)) {
					t.Error(k)
				}
			}
		}
	}
	if l := Of(g.plan, api.Key{Item: 4, Try: 2}); letters(l) != "ac" {
		t.Error(letters(l))
	}
	if l := Of(g.plan, api.Key{Item: 4, Undo: true, Try: -5}); letters(l) != "acde" {
		t.Error(letters(l))
	}
}

// P22.1: causes rise, none stands twice, though it be met in many ways, and none is a sub-saga; without Undo none is the step itself.
func TestRising(t *testing.T) {
	g := sagaOf(t, "a b<a Lc<a,b ( d Ve<d ( f | g ) h<d,e | i ) j<a,b,c | k Vl<k ( m ) n<k,l")
	for i := range g.nodes {
		for _, undo := range []bool{false, true} {
			l := Of(g.plan, api.Key{Item: i, Undo: undo})
			for at, c := range l {
				if g.nodes[c].sub || at > 0 && l[at-1] >= c || !undo && c == i {
					t.Error(i, undo, l)
				}
			}
			if slices.Contains(l, i) != (undo && !g.nodes[i].sub) {
				t.Error(i, undo, l)
			}
		}
	}
}

// none holds that nothing is told of a key.
func none(t *testing.T, p api.Plan, k api.Key) {
	t.Helper()
	last := slices.Repeat([][]int{{1, 2}}, 70)
	facts := slices.Repeat([]api.Fact{{Run: api.RunOk}}, 70)
	for _, n := range []int{0, 1, len(p.Items), 70} {
		if s, l := Stamp(p, k, last[:n]), Only(p, k, facts[:n]); len(s) != 0 || len(l) != 0 {
			t.Error(p, k, n, s, l)
		}
	}
	if l := Of(p, k); len(l) != 0 {
		t.Error(p, k, l)
	}
}

// P22.1 to P22.3: what is no step of the plan has none: what it has not, the root, sub-sagas.
func TestNoStep(t *testing.T) {
	g := sagaOf(t, "a Lb<a ( c Vd<c ( e ) | f ) | Vg ( h )")
	for _, i := range append(anyInts(), len(g.nodes), len(g.nodes)+1, -len(g.nodes)) {
		for _, undo := range []bool{false, true} {
			k := api.Key{Item: i, Undo: undo}
			isStep := i > 0 && i < len(g.nodes) && !g.nodes[i].sub
			if !isStep {
				none(t, g.plan, k)
			} else if l := Only(g.plan, k, make([]api.Fact, 9)); len(l) != 9 {
				t.Error(k, l)
			}
		}
	}
	for _, name := range []string{"b", "d", "g"} {
		none(t, g.plan, api.Key{Item: g.named(name).number})
		none(t, g.plan, api.Key{Item: g.named(name).number, Undo: true})
	}
}

// wrong are plans that are not right, of all sorts.
func wrong(t testing.TB) []api.Plan {
	p := sagaOf(t, "a b<a Lc ( d | e )").plan
	l := []api.Plan{{}, {Items: []api.Item{}}, {Items: p.Items[:1]}, {Items: p.Items[1:]}, {Items: p.Items[:4]}, {Items: slices.Concat(p.Items, p.Items[1:2])}, {Items: make([]api.Item, 70)}}
	for _, turn := range []func(x []api.Item){
		func(x []api.Item) { x[0].Alts = 2 },
		func(x []api.Item) { x[0].In = 0 },
		func(x []api.Item) { x[1].Undo = "" },
		func(x []api.Item) { x[1].Name = "b" },
		func(x []api.Item) { x[1].After = []int{2} },
		func(x []api.Item) { x[1].Vital = true },
		func(x []api.Item) { x[2].In = 1 },
		func(x []api.Item) { x[2].Sub = true },
		func(x []api.Item) { x[2].After = []int{7} },
		func(x []api.Item) { x[3].Alts = 3 },
		func(x []api.Item) { x[3].Undo = "u" },
		func(x []api.Item) { x[4].Alt = -1 },
		func(x []api.Item) { x[4].In = 4 },
		func(x []api.Item) { x[5].Alt = math.MaxInt },
		func(x []api.Item) { x[5].In = math.MinInt },
	} {
		q := slices.Clone(p.Items)
		turn(q)
		l = append(l, api.Plan{Items: q})
	}
	return l
}

// P22.1 to P22.3: of a plan that is not right nothing is told.
func TestWrongPlans(t *testing.T) {
	for _, p := range wrong(t) {
		if plan.Right(p) {
			t.Fatal(p)
		}
		for i := -1; i < len(p.Items)+1; i++ {
			none(t, p, api.Key{Item: i})
			none(t, p, api.Key{Item: i, Undo: true})
		}
	}
}

// P22.2: the causes' stamps alone, of any lengths, be there more or fewer than items.
func TestStamp(t *testing.T) {
	// Causes: of d a c, of e c d, of a none, of d's undoing a c d e, of f a c d e.
	p := sagaOf(t, "a Lb<a ( c | d ) e<b | f").plan
	begin := func(i int) api.Key { return api.Key{Item: i} }
	d, e, f, undo := begin(4), begin(5), begin(6), api.Key{Item: 4, Undo: true}
	for at, x := range []struct {
		k    api.Key
		last [][]int
		want []int
	}{
		{d, nil, nil},
		{d, [][]int{}, nil},
		{d, [][]int{{9}}, nil},
		{d, [][]int{{9}, {1, 2}}, []int{1, 2}},
		{d, [][]int{{9}, {1, 2}, {8, 8, 8}}, []int{1, 2}},
		{d, [][]int{{9}, {1, 2}, {8, 8, 8}, {2, 1}}, []int{2, 2}},
		{d, [][]int{{9}, {1, 2}, {8, 8, 8}, {2, 1, 0}}, []int{2, 2, 0}},
		{d, [][]int{{9}, {1, 2, 0, 0}, {8, 8, 8}, {2}}, []int{2, 2, 0, 0}},
		{d, [][]int{{9}, nil, {8, 8, 8}, {2}}, []int{2}},
		{d, [][]int{{9}, {3}, {8, 8, 8}, nil}, []int{3}},
		{d, [][]int{{9}, {}, {8, 8, 8}, {}, {9}, {9}, {9}}, nil},
		{d, [][]int{{9}, {0, 0}, nil, {0}}, []int{0, 0}},
		{d, [][]int{nil, {1, 2}, nil, {2, 1}, {7}, {7, 7, 7}, {7}, {9, 9, 9, 9}, {9}}, []int{2, 2}},
		{e, [][]int{{9}, {9, 9, 9}, {9}, {1}, {0, 3}, {9}}, []int{1, 3}},
		{e, [][]int{{9}, {9, 9, 9}, {9}}, nil},
		{begin(1), [][]int{{9}, {9}, {9}, {9}, {9}, {9}, {9}, {9}}, nil},
		{begin(3), [][]int{{9}, {5, 0}, {9}, {9}, {9}, {9}, {9}, {9}}, []int{5, 0}},
		{undo, [][]int{{9}, {1}, {9}, {0, 1}, {0, 0, 1}, {0, 0, 0, 1}, {9}, {9}}, []int{1, 1, 1, 1}},
		{undo, [][]int{{9}, {1}, {9}, {0, 1}, {0, 0, 1}}, []int{1, 1, 1}},
		{f, [][]int{{9}, {1}, {9}, {0, 1}, {0, 0, 1}, {0, 0, 0, 1}, {9}, {9}}, []int{1, 1, 1, 1}},
		{api.Key{Item: 6, Undo: true}, [][]int{{9}, {9}, {9}, {9}, {9}, {9}, {4, 2}, {9}}, []int{4, 2}},
		{d, [][]int{nil, {api.MaxCount, math.MaxInt}, nil, {math.MaxInt, 0}}, []int{math.MaxInt, math.MaxInt}},
		{d, [][]int{nil, slices.Repeat([]int{1}, 64), nil, slices.Repeat([]int{2}, 100)}, slices.Repeat([]int{2}, 100)},
	} {
		if s := Stamp(p, x.k, x.last); !slices.Equal(s, x.want) {
			t.Errorf("%d: %v: %v, want %v", at, x.k, s, x.want)
		}
	}
}

// P22.3: the facts at the causes' places and the item's alone stay, whatever they are; how many there are stays.
func TestOnly(t *testing.T) {
	g := sagaOf(t, "a Lb<a ( c | d ) e<b | f")
	some := api.Fact{Run: 7, Tries: -1, Slips: 9, Undone: true}
	for _, x := range []struct {
		name string
		undo bool
		kept string
	}{
		{"a", false, "a"}, {"c", false, "ac"}, {"d", false, "acd"}, {"e", false, "cde"}, {"f", false, "acdef"},
		{"a", true, "acde"}, {"c", true, "acde"}, {"d", true, "acde"}, {"e", true, "acde"}, {"f", true, "f"},
	} {
		for count := range 75 {
			l := Only(g.plan, api.Key{Item: g.named(x.name).number, Undo: x.undo}, slices.Repeat([]api.Fact{some}, count))
			if len(l) != count {
				t.Fatal(x.name, x.undo, count, len(l))
			}
			for i, f := range l {
				isKept := i > 0 && i < len(g.nodes) && strings.Contains(x.kept, g.nodes[i].name)
				if isKept && f != some || !isKept && f != (api.Fact{}) {
					t.Errorf("%s %v: fact %d of %d: %v", x.name, x.undo, i, count, f)
				}
			}
		}
	}
	// Each fact stays at its own place.
	l := []api.Fact{{Run: 1}, {Run: 2}, {Run: 3}, {Run: 2, Tries: 1}, {Run: 1}, {Run: 2, Tries: 2}, {Run: 3}}
	want := []api.Fact{{}, {Run: 2}, {}, {Run: 2, Tries: 1}, {Run: 1}, {}, {}}
	if m := Only(g.plan, api.Key{Item: 4}, l); !slices.Equal(m, want) {
		t.Error(m)
	}
}

func sameItem(a, b api.Item) bool {
	return a.Name == b.Name && a.Undo == b.Undo && a.Sub == b.Sub && a.Vital == b.Vital && a.Alts == b.Alts && a.In == b.In && a.Alt == b.Alt && slices.Equal(a.After, b.After)
}

// P22.1 to P22.3: nothing that is handed in is turned, and what is given back is new.
func TestApart(t *testing.T) {
	g := sagaOf(t, "a Lb<a ( c | d ) e<b | f")
	items := slices.Clone(g.plan.Items)
	for i, x := range items {
		items[i].After = slices.Clone(x.After)
	}
	row := []int{5, 6, 7, 8, 9, 1, 2, 3, 4, 5, 6, 7, 8, 9}
	facts := slices.Repeat([]api.Fact{{Run: api.RunOk, Tries: 1}}, 9)
	for _, k := range []api.Key{{Item: 3}, {Item: 4}, {Item: 5}, {Item: 4, Undo: true}, {Item: 6, Undo: true}} {
		numbers, known := slices.Clone(row), slices.Clone(facts)
		var last [][]int
		for i := range 7 {
			last = append(last, numbers[2*i:2*i+1])
		}
		kept := slices.Clone(last)
		of, s, l := Of(g.plan, k), Stamp(g.plan, k, last[:5]), Only(g.plan, k, known[:7])
		again, more, still := Of(g.plan, k), Stamp(g.plan, k, last[:5]), Only(g.plan, k, known[:7])
		wantOf, wantStamp, wantOnly := slices.Clone(of), slices.Clone(s), slices.Clone(l)
		clear(of[:cap(of)])
		clear(s[:cap(s)])
		clear(l[:cap(l)])
		if !slices.Equal(numbers, row) || !slices.Equal(known, facts) || !slices.EqualFunc(g.plan.Items, items, sameItem) {
			t.Fatal(k, "turned what was handed in")
		}
		for i := range kept {
			if len(last[i]) != 1 || &last[i][0] != &kept[i][0] {
				t.Fatal(k, "put another stamp in the place of one")
			}
		}
		clear(numbers)
		clear(known)
		if !slices.Equal(again, wantOf) || !slices.Equal(more, wantStamp) || !slices.Equal(still, wantOnly) {
			t.Fatal(k, "shares memory")
		}
	}
}

// P22.1: as many items as there may be, and as deep as they may stand.
func TestGreat(t *testing.T) {
	var pieces []string
	for i := range api.MaxItems - 1 {
		if i > 0 && i%16 == 0 {
			pieces = append(pieces, "|")
		}
		pieces = append(pieces, "n"+strconv.Itoa(i))
	}
	wide := sagaOf(t, strings.Join(pieces, " "))
	deep := sagaOf(t, "a Vb<a ( c Vd<c ( e Vf<e ( g Vh<g ( i Vj<i ( k | l ) ) ) ) ) m<b")
	for i := 1; i < api.MaxItems; i++ {
		if l := Of(wide.plan, api.Key{Item: i}); len(l) != (i-1)/16*16 || len(l) > 0 && (l[0] != 1 || l[len(l)-1] != len(l)) {
			t.Error(i, l)
		}
		if l := Of(wide.plan, api.Key{Item: i, Undo: true}); len(l) != min(16, 63-(i-1)/16*16) || l[0] != (i-1)/16*16+1 {
			t.Error(i, l)
		}
	}
	if l := Of(deep.plan, api.Key{Item: 12}); letters(l) != "acegik" {
		t.Error(letters(l))
	}
	if l := Of(deep.plan, api.Key{Item: 13}); letters(l) != "cegikl" {
		t.Error(letters(l))
	}
	if l := Of(deep.plan, api.Key{Item: 11, Undo: true}); letters(l) != "acegiklm" {
		t.Error(letters(l))
	}
}
