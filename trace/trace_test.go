package trace

import (
	"math"
	"slices"
	"strings"
	"testing"

	"argosy/api"
	"argosy/fact"
	"argosy/oracle"
	"argosy/plan"
	"argosy/state"
	"argosy/syntax"
	"argosy/task"
)

// A trace is written as pieces between blanks: a letter is an item's number (a is 1, @ is 0), a digit behind it the try in which it was undone, and + or - says whether that went well.

func effectOf(piece string) api.Effect {
	x := api.Effect{Key: api.Key{Item: int(piece[0]) - 'a' + 1}, Ok: strings.HasSuffix(piece, "+")}
	if piece[0] == '@' {
		x.Key.Item = 0
	}
	if len(piece) == 3 {
		x.Key.Undo, x.Key.Try = true, int(piece[1]-'0')
	}
	return x
}

func traced(text string) []api.Effect {
	var l []api.Effect
	for _, piece := range strings.Fields(text) {
		l = append(l, effectOf(piece))
	}
	return l
}

func planned(t testing.TB, text string) api.Plan {
	t.Helper()
	g, at, e := syntax.Read(text)
	if e != api.OK {
		t.Fatal(text, at, int(e))
	}
	p, e := plan.Make(g)
	if e != api.OK {
		t.Fatal(text, int(e))
	}
	return p
}

// bodies tells the plan of a saga of which the text says the bodies, its nodes named by letters in order, and of each step u undoes it.
func bodies(t testing.TB, text string) api.Plan {
	t.Helper()
	p := planned(t, "saga t { "+text+" }")
	for i, x := range p.Items[1:] {
		if x.Name != string(rune('a'+i)) {
			t.Fatal(text, "names", x.Name, "out of order")
		}
	}
	return p
}

// far are numbers of items and tries, near to the edges and far from them.
var far = []int{math.MinInt, math.MinInt + 1, -1 << 32, -256, -64, -2, -1, 0, 1, 2, 3, 4, 62, 63, 64, 65, 256, 1 << 32, math.MaxInt - 1, math.MaxInt}

// keys tells keys that all differ from one another, some in one of their parts alone.
func keys() []api.Key {
	var l []api.Key
	for _, item := range far {
		for _, try := range far {
			l = append(l, api.Key{Item: item, Try: try}, api.Key{Item: item, Undo: true, Try: try})
		}
	}
	return l
}

// The example of the chapter.
func TestExamples(t *testing.T) {
	l := traced("a+ b+ a+")
	if Again(l) != 1 || !slices.Equal(Last(l), traced("b+ a+")) || !slices.Equal(Left(l), []int{1, 2}) {
		t.Error(Again(l), Last(l), Left(l))
	}
}

// P20.1: what is done again must have gone alike, wherever it stands.
func TestCheck(t *testing.T) {
	for text, want := range map[string]api.Errno{
		"":                         api.OK,
		"a+":                       api.OK,
		"a-":                       api.OK,
		"a+ a+":                    api.OK,
		"a- a-":                    api.OK,
		"a+ a-":                    api.ErrState,
		"a- a+":                    api.ErrState,
		"a+ a+ a+":                 api.OK,
		"a- a- a-":                 api.OK,
		"a+ a+ a-":                 api.ErrState,
		"a+ a- a+":                 api.ErrState,
		"a- a+ a+":                 api.ErrState,
		"a- a- a+":                 api.ErrState,
		"a- a+ a-":                 api.ErrState,
		"a+ a- a-":                 api.ErrState,
		"a+ b- a0- a1+ b- a0- a+":  api.OK,
		"a+ b- a0- a1+ b- a0- a-":  api.ErrState,
		"a+ b- a0- a1+ b- a0+ a+":  api.ErrState,
		"a+ b- a0- a1+ b+ a0- a+":  api.ErrState,
		"a+ b- c+ d+ e+ f+ a1+ b-": api.OK,
		"a+ b- c+ d+ e+ f+ a1+ b+": api.ErrState,
		"b- c- a+ d+ a- e+ f+":     api.ErrState,
		"a+ a0- a1- a2- a3+":       api.OK,
		"a+ b-":                    api.OK,
		"a- a0+":                   api.OK,
		"a0- a1+":                  api.OK,
		"a0- b0+ a0- c0+ b0+ a0-":  api.OK,
		"a0- b0+ a0- c0+ b0- a0-":  api.ErrState,
	} {
		if e := Check(traced(text)); e != want {
			t.Errorf("%s: %d; want %d", text, e, want)
		}
	}
}

// P20.1: keys that differ in one of their parts alone are not the same: each of any kind is told, and none is taken for another one.
func TestKeys(t *testing.T) {
	all := keys()
	for i, k := range all {
		for j, m := range all {
			l := []api.Effect{{Key: k, Ok: true}, {Key: m}}
			again, find, e := 0, 1, api.OK
			if i == j {
				again, find, e = 1, 0, api.ErrState
			}
			if Check(l) != e || Again(l) != again || Find(l, m) != find || Find(l, k) != 0 || len(Last(l)) != 2-again {
				t.Fatal(l, int(Check(l)), Again(l), Find(l, m), Last(l))
			}
		}
	}
	var l []api.Effect
	for i, k := range all {
		l = append(l, api.Effect{Key: k, Ok: i%3 == 0})
	}
	if Check(l) != api.OK || Again(l) != 0 || !slices.Equal(Last(l), l) {
		t.Error(int(Check(l)), Again(l))
	}
	l = append(l, l...)
	if Check(l) != api.OK || Again(l) != len(all) || !slices.Equal(Last(l), l[:len(all)]) {
		t.Error(int(Check(l)), Again(l))
	}
	for i, k := range all {
		if Find(l, k) != i || Find(l[i+1:], k) != len(all)-1 || Find(slices.Concat(l[:i], l[len(all):len(all)+i]), k) != -1 {
			t.Fatal(k, Find(l, k), Find(l[i+1:], k))
		}
	}
}

// P20.1: each effect but a key's first one counts.
func TestAgain(t *testing.T) {
	for text, want := range map[string]int{
		"":                          0,
		"a+":                        0,
		"a+ a+":                     1,
		"a+ a-":                     1,
		"a+ a+ a+":                  2,
		"a+ a- a+ a-":               3,
		"a+ b+":                     0,
		"a+ b+ a+ b+":               2,
		"a+ b+ b+ a+":               2,
		"a+ a+ b+ b+":               2,
		"a+ a0+ a1+ a2+ a3+":        0,
		"a+ a0+ a1+ a+ a1+ a0+ a1+": 4,
		"a+ b- c+ d- a+ c+ e+ c-":   3,
		"@+ a+ @- @0+ @0-":          2,
	} {
		if n := Again(traced(text)); n != want {
			t.Errorf("%s: %d; want %d", text, n, want)
		}
	}
	if n := Again(slices.Repeat(traced("a+ b- a0-"), 1000)); n != 2997 {
		t.Error(n)
	}
}

// P20.1: the first place of a key, whether it went well there or not.
func TestFind(t *testing.T) {
	for _, c := range []struct {
		text, key string
		want      int
	}{
		{"", "a+", -1},
		{"a+", "a+", 0},
		{"a-", "a+", 0},
		{"a+", "a-", 0},
		{"a+", "b+", -1},
		{"a+", "a0+", -1},
		{"a0+", "a+", -1},
		{"a0+", "a1+", -1},
		{"a0+", "a0-", 0},
		{"a+ b+ c+", "c+", 2},
		{"a+ b+ c+", "b+", 1},
		{"a+ b+ c+", "d+", -1},
		{"b+ a- b+ a+ b+ a+", "a+", 1},
		{"b+ a- b+ a+ b+ a+", "b+", 0},
		{"b+ c0- b+ a+ c1+ a+", "c1+", 4},
		{"b+ c0- b+ a+ c1+ a+", "c+", -1},
		{"a+ a+ a+ a+ a+ b+", "b-", 5},
		{"b+ a+ a+ a+ a+ a+", "a-", 1},
		{"a+ a0+", "@+", -1},
		{"a+ @+", "@+", 1},
	} {
		if at := Find(traced(c.text), effectOf(c.key).Key); at != c.want {
			t.Errorf("%s of %s: %d; want %d", c.key, c.text, at, c.want)
		}
	}
	if at := Find(nil, api.Key{}); at != -1 {
		t.Error(at)
	}
}

// P20.2: each key's last effect, as it went then, in the order of these.
func TestLast(t *testing.T) {
	for text, want := range map[string]string{
		"":                        "",
		"a+":                      "a+",
		"a+ a+":                   "a+",
		"a+ a-":                   "a-",
		"a- a+":                   "a+",
		"a+ a- a+ a-":             "a-",
		"a+ b+":                   "a+ b+",
		"b+ a+":                   "b+ a+",
		"a+ b+ a+":                "b+ a+",
		"a+ b+ a-":                "b+ a-",
		"a+ b+ c+ b+ a+":          "c+ b+ a+",
		"a+ b+ c+ a+ b+ c+":       "a+ b+ c+",
		"a+ b+ c+ c+ a+ b+":       "c+ a+ b+",
		"a+ a0- a1+":              "a+ a0- a1+",
		"a+ a0- a+ a1+ a0+":       "a+ a1+ a0+",
		"a- b- a+ b+ c- a- b+":    "c- a- b+",
		"@+ a+ b0+ @- b1+ b0- a+": "@- b1+ b0- a+",
	} {
		if l := Last(traced(text)); !slices.Equal(l, traced(want)) {
			t.Errorf("%s: %v; want %s", text, l, want)
		}
	}
	if l := Last(slices.Repeat(traced("a+ a-"), 5000)); !slices.Equal(l, traced("a-")) {
		t.Error(l)
	}
}

// P20.3: what was done well is left, unless undoing it went well, at whichever try and place.
func TestLeft(t *testing.T) {
	for text, want := range map[string][]int{
		"":                        nil,
		"a+":                      {1},
		"a-":                      nil,
		"a+ a+":                   {1},
		"a+ a-":                   {1},
		"a- a+":                   {1},
		"a- a-":                   nil,
		"a+ a0+":                  nil,
		"a+ a0-":                  {1},
		"a+ a0- a1-":              {1},
		"a+ a0- a1+":              nil,
		"a+ a0- a1- a2- a3+":      nil,
		"a+ a0- a1- a2- a3-":      {1},
		"a+ a0+ a0-":              nil,
		"a+ a0+ a+":               nil,
		"a0+ a+":                  nil,
		"a0- a+":                  {1},
		"a0+":                     nil,
		"a0-":                     nil,
		"a- a0+":                  nil,
		"a- a0+ a+":               nil,
		"b+ a+":                   {1, 2},
		"c+ a+ b+ c+ a+":          {1, 2, 3},
		"a+ b0+":                  {1},
		"a+ b0+ b+":               {1},
		"a+ b+ b0-":               {1, 2},
		"a+ b+ c+ b0- c0+ b1+":    {1},
		"e+ d- c+ b+ a+ b0- @+":   {0, 1, 2, 3, 5},
		"e+ d- c+ b+ a+ @0+ @+":   {1, 2, 3, 5},
		"a+ b- c+ d- e+ f- e0+":   {1, 3},
		"d+ c+ b+ a+ a0+ b0+ d0+": {3},
	} {
		if l := Left(traced(text)); !slices.Equal(l, want) {
			t.Errorf("%s: %v; want %v", text, l, want)
		}
	}
}

// P20.3: items of any numbers, and whatever try stands beside them.
func TestLeftFar(t *testing.T) {
	all := keys()
	for i, k := range all {
		for j, m := range all {
			l := []api.Effect{{Key: k, Ok: true}, {Key: m, Ok: true}}
			var want []int
			for _, x := range []api.Key{all[min(i, j)], all[max(i, j)]} {
				isUndone := k.Undo && k.Item == x.Item || m.Undo && m.Item == x.Item
				if !x.Undo && !isUndone && !slices.Contains(want, x.Item) {
					want = append(want, x.Item)
				}
			}
			if left := Left(l); !slices.Equal(left, want) {
				t.Fatal(l, left, want)
			}
		}
	}
	var l []api.Effect
	for _, k := range all {
		l = append(l, api.Effect{Key: api.Key{Item: k.Item, Try: k.Try}, Ok: true})
	}
	if left := Left(slices.Concat(l[len(l)/2:], l)); !slices.Equal(left, far) {
		t.Error(left)
	}
}

// wrong are plans that are not right.
func wrong(t testing.TB) []api.Plan {
	p := bodies(t, "( step a undo u ; step b undo u after a ; )")
	l := []api.Plan{{}, {Items: []api.Item{}}, {Items: p.Items[1:]}, {Items: slices.Concat(p.Items, p.Items[1:2])}}
	for _, turn := range []func(x []api.Item){
		func(x []api.Item) { x[0].Alts = 2 },
		func(x []api.Item) { x[1].Undo = "" },
		func(x []api.Item) { x[1].Name = "b" },
		func(x []api.Item) { x[1].After = []int{2} },
		func(x []api.Item) { x[2].In = 1 },
		func(x []api.Item) { x[2].Sub = true },
	} {
		q := slices.Clone(p.Items)
		turn(q)
		l = append(l, api.Plan{Items: q})
	}
	return l
}

// P20.4: a plan that is not right is told ahead of all else.
func TestOrderPlan(t *testing.T) {
	for _, p := range wrong(t) {
		for _, text := range []string{"", "a+", "a+ b+ a0+ b0+", "a0+", "@+", "z+", "a+ a0+ a0+"} {
			if e := Order(p, traced(text)); e != api.ErrArg {
				t.Errorf("%v, %s: %d", p, text, e)
			}
		}
	}
}

// P20.4: an effect must be one of a step of the plan, whatever try stands beside it.
func TestOrderItems(t *testing.T) {
	p := bodies(t, "( step a undo u ; loose sub b { ( step c undo u ; ) or ( vital sub d { ( step e undo u ; ) } ) } step f undo u ; )")
	isStep := func(i int) bool { return i == 1 || i == 3 || i == 5 || i == 6 }
	for _, item := range append(far, 5, 6, 7, 8) {
		for _, try := range far {
			for _, ok := range []bool{false, true} {
				x := api.Effect{Key: api.Key{Item: item, Try: try}, Ok: ok}
				want := api.ErrState
				if isStep(item) {
					want = api.OK
				}
				for _, l := range [][]api.Effect{{x}, append(traced("a+ c- f+"), x), append([]api.Effect{x}, traced("f+ a+ e-")...)} {
					if e := Order(p, l); e != want {
						t.Errorf("%v: %d; want %d", l, e, want)
					}
				}
				// It is undone as any step is, by whatever try.
				done := api.Effect{Key: api.Key{Item: item, Try: 7}, Ok: true}
				x.Key.Undo = true
				if e := Order(p, []api.Effect{done, x}); e != want {
					t.Errorf("%v undone: %d; want %d", x, e, want)
				}
				if e := Order(p, []api.Effect{x, done}); e != api.ErrState {
					t.Errorf("%v undone ahead: %d", x, e)
				}
			}
		}
	}
}

// P20.4: of one step.
func TestOrderStep(t *testing.T) {
	p := bodies(t, "( step a undo u ; step b undo u ; )")
	for text, want := range map[string]api.Errno{
		"":                          api.OK,
		"a+":                        api.OK,
		"a-":                        api.OK,
		"a+ a-":                     api.OK,
		"a+ a+ b+ b- b-":            api.OK,
		"a+ a0+":                    api.OK,
		"a+ a0-":                    api.OK,
		"a+ a3+":                    api.OK,
		"a+ a0- a0-":                api.OK,
		"a+ a0- a0+":                api.OK,
		"a+ a0- a1- a2- a3+":        api.OK,
		"a+ a3- a2- a0+":            api.OK,
		"a0+":                       api.ErrState,
		"a0-":                       api.ErrState,
		"a- a0+":                    api.ErrState,
		"a- a0-":                    api.ErrState,
		"b+ a0+":                    api.ErrState,
		"b+ a0-":                    api.ErrState,
		"a0+ a+":                    api.ErrState,
		"a0- a+":                    api.ErrState,
		"a0- a+ a1+":                api.ErrState,
		"a- a0+ a+":                 api.ErrState,
		"a- a0- a+ a1+":             api.ErrState,
		"a- a+ a0+":                 api.OK,
		"a+ a- a0+":                 api.OK,
		"a+ a0+ a-":                 api.OK,
		"a+ a0+ a+":                 api.OK,
		"a+ a0- a+ a1+":             api.OK,
		"a+ a0- a- a1+ a+ a-":       api.OK,
		"a+ a0+ a0+":                api.ErrState,
		"a+ a0+ a1+":                api.ErrState,
		"a+ a0+ a0-":                api.ErrState,
		"a+ a0+ a1-":                api.ErrState,
		"a+ a1+ a0-":                api.ErrState,
		"a+ a0- a1+ a2+":            api.ErrState,
		"a+ a0- a1+ a0-":            api.ErrState,
		"a+ a0+ a+ a1+":             api.ErrState,
		"a+ a0+ b+ b- b+ a1-":       api.ErrState,
		"a+ b+ a0+ b0+":             api.OK,
		"a+ b+ b0+ a0+":             api.OK,
		"a+ b+ a0- b0- b1+ a1+":     api.OK,
		"a+ a0+ b+ b0- b1+":         api.OK,
		"a+ a0+ b+ b0- b1+ b2-":     api.ErrState,
		"a+ a0+ b0+ b+":             api.ErrState,
		"a+ b- b0+ a0+":             api.ErrState,
		"a+ a0+ b+ b0+ b- b+ a+ a-": api.OK,
	} {
		if e := Order(p, traced(text)); e != want {
			t.Errorf("%s: %d; want %d", text, e, want)
		}
	}
}

// pairs are traces of steps x and y, both done well, of which y leans on x, or stands in what does.
func pairs() map[string]api.Errno {
	return map[string]api.Errno{
		"y0+ x0+":                     api.OK,
		"x0+ y0+":                     api.ErrState,
		"x0+":                         api.OK,
		"y0+":                         api.OK,
		"x0- y0+":                     api.OK,
		"x0+ y0-":                     api.OK,
		"x0- y0-":                     api.OK,
		"y0- x0-":                     api.OK,
		"y0- x0+":                     api.OK,
		"y0- x0+ y1-":                 api.OK,
		"x0- y0+ x1-":                 api.OK,
		"x0- y0+ x1+":                 api.ErrState,
		"x0- y0- y1+ x1+":             api.ErrState,
		"x0- y0- x1+ y1+":             api.ErrState,
		"x0- y0- x1+ y1-":             api.OK,
		"x0- y0- x1- y1+":             api.OK,
		"y0- x0- y1+ x1+":             api.ErrState,
		"y0- x0- x1+ y1+":             api.ErrState,
		"y0- x0+ y1+":                 api.ErrState,
		"y0- y1+ x0+":                 api.OK,
		"y0- y1+ x0- x1+":             api.OK,
		"y0- y1- y2- y3+ x0- x1- x2+": api.OK,
		"y0- y1- y2- x0- y3+ x1- x2+": api.ErrState,
		"y0+ x0- x0- x1+":             api.OK,
		"y0- y0+ x0-":                 api.OK,
		"y0+ x+ y+ y- x- x0+":         api.OK,
	}
}

// P20.4, P20.6: of two steps of which one leans on the other, in whichever way, with effects of others between and ahead, and of two of which none does.
func TestOrderPairs(t *testing.T) {
	one := bodies(t, "( step a undo u after b ; step b undo u ; step c undo u ; )")
	chain := bodies(t, "( step a undo u ; step b undo u after a ; step c undo u after b ; step d undo u after c , a ; )")
	deep := bodies(t, "( step a undo u ; loose sub b after a { ( step c undo u ; vital sub d { ( step e undo u ; ) or ( step f undo u ; ) } ) or ( step g undo u ; step h undo u after g ; ) } step i undo u after b ; )")
	// A sub-saga by way of which another one leans, and steps within each.
	way := bodies(t, "( step a undo u ; loose sub b after a { ( step c undo u ; ) } vital sub d after b { ( step e undo u ; ) } ) or ( step f undo u ; )")
	for _, c := range []struct {
		p          api.Plan
		leaning    string // pairs of letters: the second one leans on the first one, or stands in what does
		notLeaning string // and pairs of which neither does
	}{
		{one, "ba", "ac ca bc cb"},
		{chain, "ab ac ad bc bd cd", ""},
		{deep, "ac ae af ag ah ai gh", "ce ec ef fe cg gc ci ic ei ie fi gi hi eh he"},
		{way, "ac ae", "ce ec af fa cf fc ef fe"},
	} {
		steps := ""
		for _, x := range c.p.Items {
			if !x.Sub {
				steps += x.Name
			}
		}
		for form, want := range pairs() {
			for _, pair := range strings.Fields(c.leaning) {
				expectPair(t, c.p, form, pair, steps, want)
			}
			for _, pair := range strings.Fields(c.notLeaning) {
				expectPair(t, c.p, form, pair, steps, api.OK)
			}
		}
	}
}

// expectPair holds a form of two steps, both done well ahead, and with effects of other steps put ahead and between, too.
func expectPair(t *testing.T, p api.Plan, form, pair, steps string, want api.Errno) {
	t.Helper()
	text := strings.NewReplacer("x", pair[:1], "y", pair[1:]).Replace("x+ y+ " + form)
	if e := Order(p, traced(text)); e != want {
		t.Fatalf("%s: %d; want %d", text, e, want)
	}
	pieces := strings.Fields(text)
	for _, s := range steps {
		if strings.ContainsRune(pair, s) {
			continue
		}
		for at := range len(pieces) + 1 {
			// Of what no undoing goes well, nothing is asked of others.
			for _, more := range []string{"x- x-", "x+", "x+ x0- x1-"} {
				with := slices.Concat(pieces[:at], strings.Fields(strings.ReplaceAll(more, "x", string(s))), pieces[at:])
				if e := Order(p, traced(strings.Join(with, " "))); e != want {
					t.Fatalf("%s: %d; want %d", with, e, want)
				}
			}
		}
	}
}

// P20.4: in other bodies of one saga nothing leans on anything of this one, and what stands in a sub-saga is not leaned on by what leans on that.
func TestOrderApart(t *testing.T) {
	p := bodies(t, "( step a undo u ; vital sub b after a { ( step c undo u ; ) } step d undo u after b ; ) or ( step e undo u ; step f undo u after e ; )")
	for text, want := range map[string]api.Errno{
		"a+ c+ d+ c0+ d0+ a0+":             api.OK,
		"a+ c+ d+ d0+ c0+ a0+":             api.OK,
		"a+ c+ d+ c0+ a0+ d0+":             api.ErrState,
		"a+ c+ d+ d0+ a0+ c0+":             api.ErrState,
		"a+ c+ a0+ e+ c0+":                 api.ErrState,
		"a+ c+ e+ f+ c0+ f0+ a0+ e0+":      api.OK,
		"a+ c+ e+ f+ c0+ e0+ a0+ f0+":      api.ErrState,
		"a+ e+ e0+ a0+ f+":                 api.OK,
		"a+ f+ f0+ a0+":                    api.OK,
		"a+ f+ a0+ f0+":                    api.OK,
		"a+ c+ d+ d0- c0- a0- a1- c1+ d1+": api.OK,
	} {
		if e := Order(p, traced(text)); e != want {
			t.Errorf("%s: %d; want %d", text, e, want)
		}
	}
}

// P20.4: the greatest bodies, and the deepest ones.
func TestOrderGreat(t *testing.T) {
	wide, deep := "( step a undo u ;", "step f undo u ;"
	for i := 1; i < 16; i++ {
		wide += " step " + string(rune('a'+i)) + " undo u after " + string(rune('a'+i-1)) + " ;"
	}
	for i := 4; i >= 0; i-- {
		deep = "step " + string(rune('a'+i)) + " undo u ; loose sub s" + string(rune('a'+i)) + " after " + string(rune('a'+i)) + " { ( " + deep + " ) }"
	}
	p, q := bodies(t, wide+" )"), planned(t, "saga t { ( "+deep+" ) }")
	// In q the steps stand at the numbers 1, 3, 5, 7, 9, 11.
	for x := range 16 {
		for y := range 16 {
			for _, c := range []struct {
				p        api.Plan
				of, many int
			}{{p, 1, 16}, {q, 2, 6}} {
				if x == y || max(x, y) >= c.many {
					continue
				}
				do := func(n int) api.Key { return api.Key{Item: n*c.of + 1} }
				undo := func(n int) api.Key { return api.Key{Item: n*c.of + 1, Undo: true} }
				l := []api.Effect{{Key: do(x), Ok: true}, {Key: do(y), Ok: true}, {Key: undo(x), Ok: true}, {Key: undo(y), Ok: true}}
				want := api.OK
				if y > x {
					want = api.ErrState
				}
				if e := Order(c.p, l); e != want {
					t.Errorf("%v: %d; want %d", l, e, want)
				}
			}
		}
	}
}

// P20.5: of any trace: the last effects' last ones are the same, none is done again in them, and each key stands there.
func TestFew(t *testing.T) {
	for l := range traces(2000, 5) {
		last := Last(l)
		if !slices.Equal(Last(last), last) || Again(last) != 0 || Check(last) != api.OK || len(last)+Again(l) != len(l) {
			t.Fatal(l, last)
		}
		for _, x := range l {
			if Find(last, x.Key) < 0 {
				t.Fatal(l, last, x)
			}
		}
		for _, x := range last {
			if Find(l, x.Key) < 0 {
				t.Fatal(l, last, x)
			}
		}
	}
}

// P20.4: each beginning of a trace in which steps were undone in order was, too.
func TestOrderBeginnings(t *testing.T) {
	p := bodies(t, "( step a undo u ; vital sub b after a { ( step c undo u ; step d undo u after c ; ) } step e undo u after b ; )")
	for l := range traces(3000, 5) {
		was := api.OK
		for n := range len(l) + 1 {
			e := Order(p, l[:n])
			if e == api.OK && was != api.OK {
				t.Fatal(l[:n], "is in order, and what it begins with is not")
			}
			was = e
		}
	}
}

// P20.6: a trace holds what all its parts of the effects of two items hold, and no more.
func TestOrderOfTwo(t *testing.T) {
	p := bodies(t, "( step a undo u ; step b undo u after a ; vital sub c after b { ( step d undo u ; ) or ( step e undo u ; ) } )")
	in, out := 0, 0
	for l := range traces(8000, 5) {
		l = slices.DeleteFunc(l, func(x api.Effect) bool { return x.Key.Item == 3 })
		order, check := api.OK, api.OK
		var left []int
		for a := 1; a <= 5; a++ {
			for b := 1; b < a; b++ {
				two := slices.DeleteFunc(slices.Clone(l), func(x api.Effect) bool { return x.Key.Item != a && x.Key.Item != b })
				order, check = max(order, Order(p, two)), max(check, Check(two))
				left = append(left, Left(two)...)
			}
		}
		slices.Sort(left)
		left = slices.Compact(left)
		if e := Order(p, l); e != order || Check(l) != check || !slices.Equal(Left(l), left) {
			t.Fatal(l, int(e), int(order), int(Check(l)), int(check), Left(l), left)
		}
		if order == api.OK {
			in++
		} else {
			out++
		}
	}
	if in < 200 || out < 200 {
		t.Error(in, out)
	}
}

// What is handed in stays as it is, and so does what stands behind its end; what is given back is new memory.
func TestApart(t *testing.T) {
	p := bodies(t, "( step a undo u ; step b undo u after a ; )")
	kept := slices.Clone(p.Items)
	for _, text := range []string{"a+ b+ a0- b0+ a+ | a-", "a+ b- | a0+ a0+", "b+ b+ | b-", "a+ b+ b0- | b1+ a0+", "| a+ b+"} {
		head, tail, _ := strings.Cut(text, "|")
		whole := slices.Concat(traced(head), traced(tail))
		l := slices.Clone(whole)[:len(traced(head))]
		Check(l)
		Again(l)
		Find(l, api.Key{Item: 2})
		Order(p, l)
		last, left, moreLast, moreLeft := Last(l), Left(l), Last(l), Left(l)
		wantLast, wantLeft := slices.Clone(last), slices.Clone(left)
		if !slices.Equal(l[:len(whole)], whole) || !slices.EqualFunc(p.Items, kept, sameItem) {
			t.Fatal(l[:len(whole)], whole, p)
		}
		clear(last[:cap(last)])
		clear(left[:cap(left)])
		if !slices.Equal(l[:len(whole)], whole) || !slices.Equal(moreLast, wantLast) || !slices.Equal(moreLeft, wantLeft) {
			t.Fatal(text, "shares memory with what is given back")
		}
		clear(l[:cap(l)])
		if !slices.Equal(moreLast, wantLast) || !slices.Equal(moreLeft, wantLeft) {
			t.Fatal(text, "is shared by what is given back")
		}
	}
	// nil and the empty list are the same.
	if Check(nil) != Check([]api.Effect{}) || Order(p, nil) != Order(p, []api.Effect{}) || len(Last(nil))+len(Left(nil))+Again(nil) != 0 {
		t.Error("of nothing")
	}
}

func sameItem(a, b api.Item) bool {
	return a.Name == b.Name && a.Undo == b.Undo && a.In == b.In && slices.Equal(a.After, b.After)
}

// P20.3, P20.4: what task lets begin is undone in order, whoever ends first; and left is what is known to be done, and not undone.
func TestRuns(t *testing.T) {
	undone, ends := 0, map[api.Status]int{}
	for _, text := range []string{
		"( step a undo u ; step b undo u after a ; step c undo u ; )",
		"( step a undo u ; vital sub b after a { ( step c undo u ; step d undo u after c ; ) or ( step e undo u ; ) } step f undo u after b ; )",
		"( loose sub a { ( step b undo u ; vital sub c after b { ( step d undo u ; step e undo u ; ) } ) } step f undo u after a ; step g undo u after f ; ) or ( step h undo u ; loose sub i after h { ( step j undo u ; step k undo u after j ; ) or ( step l undo u ; ) } )",
	} {
		p := bodies(t, text)
		for seed := range int64(300) {
			l, facts := runOf(t, p, seed)
			if e := Order(p, l); e != api.OK || Check(l) != api.OK || Again(l) != 0 {
				t.Fatal(text, l, int(e), int(Check(l)), Again(l))
			}
			var left []int
			for i, f := range facts {
				if f.Run == api.RunOk && !f.Undone {
					left = append(left, i)
				}
				if f.Undone {
					undone++
				}
			}
			if !slices.Equal(Left(l), left) {
				t.Fatal(text, l, Left(l), left)
			}
			ends[state.Verdict(p, facts)]++
		}
	}
	if undone < 500 || ends[api.Done] < 50 || ends[api.Failed] < 50 {
		t.Error(undone, ends)
	}
}

// runOf runs a plan by choices, with some keys open at a time, and tells what was done, and what is known then.
func runOf(t *testing.T, p api.Plan, seed int64) ([]api.Effect, []api.Fact) {
	t.Helper()
	r, s := script(seed)
	facts, l, e := fact.None(p), []api.Effect(nil), api.OK
	for {
		open, may := fact.Open(p, facts), task.May(p, facts)
		switch n := r.Intn(len(open) + len(may) + 1); {
		case len(open)+len(may) == 0:
			return l, facts
		case n < len(open):
			x := api.Effect{Key: open[n], Ok: oracle.Ok(s, open[n])}
			l = append(l, x)
			facts, e = task.End(p, facts, x.Key, x.Ok)
		case n < len(open)+len(may):
			facts, e = task.Begin(p, facts, may[n-len(open)])
		}
		if e != api.OK {
			t.Fatal(l, int(e))
		}
	}
}
