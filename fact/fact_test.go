package fact

import (
	"math/rand"
	"slices"
	"strings"
	"testing"

	"argosy/api"
)

// P13.1: a step's fact, by the words of the chapter, one by one.
func TestCheckFact(t *testing.T) {
	p := one(t)
	for _, c := range []struct {
		f    api.Fact
		want api.Errno
	}{
		{api.Fact{Run: -1}, api.ErrArg},
		{api.Fact{Run: 0}, api.OK},
		{api.Fact{Run: 1}, api.OK},
		{api.Fact{Run: 2}, api.OK},
		{api.Fact{Run: 3}, api.OK},
		{api.Fact{Run: 4}, api.ErrArg},
		{api.Fact{Run: 2, Tries: -1, Slips: -1}, api.ErrArg},
		{api.Fact{Run: 2, Tries: 0, Slips: -1}, api.ErrArg},
		{api.Fact{Run: 2, Tries: 0, Slips: 0}, api.OK},
		{api.Fact{Run: 2, Tries: 3, Slips: 3}, api.OK},
		{api.Fact{Run: 2, Tries: 4, Slips: 3}, api.OK},
		{api.Fact{Run: 2, Tries: 4, Slips: 4}, api.ErrArg},
		{api.Fact{Run: 2, Tries: 5, Slips: 4}, api.ErrArg},
		{api.Fact{Run: 2, Tries: 1, Slips: 0}, api.OK},
		{api.Fact{Run: 2, Tries: 2, Slips: 0}, api.ErrArg},
		{api.Fact{Run: 2, Tries: -1, Slips: 0}, api.ErrArg},
		{api.Fact{Run: 2, Tries: 0, Slips: 1}, api.ErrArg},
		{api.Fact{Run: 2, Tries: 1, Slips: 1}, api.OK},
		{api.Fact{Run: 2, Tries: 2, Slips: 1}, api.OK},
		{api.Fact{Run: 2, Tries: 3, Slips: 1}, api.ErrArg},
		{api.Fact{Run: 2, Tries: 5, Slips: 3}, api.ErrArg},
		{api.Fact{Run: 2, Tries: 2, Slips: 3}, api.ErrArg},
		{api.Fact{Run: 0, Tries: 1}, api.ErrArg},
		{api.Fact{Run: 1, Tries: 1}, api.ErrArg},
		{api.Fact{Run: 3, Tries: 1}, api.ErrArg},
		{api.Fact{Run: 0, Tries: 1, Slips: 1}, api.ErrArg},
		{api.Fact{Run: 1, Tries: 1, Slips: 1}, api.ErrArg},
		{api.Fact{Run: 3, Tries: 1, Slips: 1}, api.ErrArg},
		{api.Fact{Run: 0, Slips: 1}, api.ErrArg},
		{api.Fact{Run: 3, Slips: -1}, api.ErrArg},
		{api.Fact{Run: 0, Undone: true}, api.ErrArg},
		{api.Fact{Run: 1, Undone: true}, api.ErrArg},
		{api.Fact{Run: 2, Undone: true}, api.ErrArg},
		{api.Fact{Run: 3, Undone: true}, api.ErrArg},
		{api.Fact{Run: 3, Tries: 1, Undone: true}, api.ErrArg},
		{api.Fact{Run: 2, Tries: 1, Undone: true}, api.OK},
		{api.Fact{Run: 2, Tries: 2, Undone: true}, api.ErrArg},
		{api.Fact{Run: 2, Tries: 3, Slips: 3, Undone: true}, api.ErrArg},
		{api.Fact{Run: 2, Tries: 4, Slips: 3, Undone: true}, api.OK},
		{api.Fact{Run: 2, Tries: least, Slips: most}, api.ErrArg},
		{api.Fact{Run: 2, Tries: most, Slips: most}, api.ErrArg},
		{api.Fact{Run: 2, Tries: least + 1, Slips: least}, api.ErrArg},
		{api.Fact{Run: 1 << 32}, api.ErrArg},
		{api.Fact{Run: least}, api.ErrArg},
		{api.Fact{Run: most}, api.ErrArg},
	} {
		l := []api.Fact{{}, c.f}
		if got := Check(p, l); got != c.want {
			t.Errorf("Check(%v): %d, want %d", l, got, c.want)
		}
		checkFacts(t, p, l)
	}
}

// P13.1, P13.4: all facts of numbers at which something changes, at a step, a sub-saga and the saga.
func TestAllFacts(t *testing.T) {
	p := some(t)
	right := 0
	for run := api.Run(-1); run <= 4; run++ {
		for tries := -2; tries <= 6; tries++ {
			for slips := -2; slips <= 5; slips++ {
				for _, undone := range []bool{false, true} {
					f := api.Fact{Run: run, Tries: tries, Slips: slips, Undone: undone}
					for i := range p.Items {
						l := make([]api.Fact, 7)
						l[i] = f
						checkFacts(t, p, l)
						if i == 6 && Check(p, l) == api.OK {
							right++
						}
					}
				}
			}
		}
	}
	if right != 15 || len(rightFacts()) != 15 {
		t.Error(right, rightFacts())
	}
}

// P13.1: so many facts as items, those of the sagas zero; one that is not right is enough.
func TestCheckFacts(t *testing.T) {
	p := some(t)
	zero := make([]api.Fact, 9)
	for n := range zero {
		want := api.ErrArg
		if n == 7 {
			want = api.OK
		}
		if got := Check(p, zero[:n]); got != want {
			t.Errorf("%d facts: %d, want %d", n, got, want)
		}
		checkFacts(t, p, zero[:n])
	}
	checkFacts(t, p, nil)
	for _, f := range rightFacts() {
		full := []api.Fact{{}, f, {}, f, f, {}, f}
		if got := Check(p, full); got != api.OK {
			t.Errorf("Check(%v): %d", full, got)
		}
		for i := range full {
			for _, wrong := range []api.Fact{{Run: 4}, {Run: -1}, {Tries: 1}, {Slips: 1}, {Undone: true}} {
				l := slices.Clone(full)
				l[i] = wrong
				if got := Check(p, l); got != api.ErrArg {
					t.Errorf("Check(%v): %d, want ErrArg", l, got)
				}
			}
		}
		for _, i := range []int{0, 2, 5} {
			l := slices.Clone(full)
			l[i] = f
			checkFacts(t, p, l)
			if got := Check(p, l); f != (api.Fact{}) && got != api.ErrArg {
				t.Errorf("Check(%v): %d, want ErrArg", l, got)
			}
		}
	}
	r := rand.New(rand.NewSource(1))
	for _, p := range []api.Plan{one(t), some(t), greatest(t)} {
		for range 50 {
			l := anyFacts(r, p)
			checkFacts(t, p, l)
			l[r.Intn(len(l))].Slips += r.Intn(3) - 1
			checkFacts(t, p, l)
			checkFacts(t, p, l[1:])
		}
	}
}

// P13.1
func TestNone(t *testing.T) {
	for _, p := range []api.Plan{one(t), some(t), greatest(t)} {
		l := None(p)
		if len(l) != len(p.Items) || Check(p, l) != api.OK || len(Open(p, l)) != 0 {
			t.Error(p, l)
		}
		for _, f := range l {
			if f != (api.Fact{}) {
				t.Error(p, l)
			}
		}
	}
}

// P13.1 to P13.4: of a plan that is not right nothing is.
func TestWrongPlans(t *testing.T) {
	for name, p := range wrongPlans(t) {
		open := make([]api.Fact, len(p.Items))
		for i, x := range p.Items {
			if !x.Sub {
				open[i] = api.Fact{Run: api.RunBegun}
			}
		}
		for _, l := range [][]api.Fact{make([]api.Fact, len(p.Items)), open, nil, make([]api.Fact, 7), make([]api.Fact, len(p.Items)+1)} {
			if e := Check(p, l); e != api.ErrArg {
				t.Errorf("%s: Check: %d, want ErrArg", name, e)
			}
			if keys := Open(p, l); len(keys) != 0 {
				t.Errorf("%s: Open: %v, want none", name, keys)
			}
			for _, e := range []api.Event{ev(api.EvStart, 1, 0), ev(api.EvOk, 1, 0), ev(api.EvStart, 9, 0), {}} {
				if then, fault := Apply(p, l, e); len(then) != 0 || fault != api.ErrArg {
					t.Errorf("%s: Apply: %v, %d; want none, ErrArg", name, then, fault)
				}
			}
		}
		if l := None(p); len(l) != 0 {
			t.Errorf("%s: None: %v, want none", name, l)
		}
		for _, h := range [][]api.Event{nil, {}, events(1, "s0"), events(1, "s0 o0 o0"), {ev(api.EvOk, 1, 0)}, {ev(api.EvStart, 1, 0), {}}, {{}}} {
			if l, n, e := All(p, h); len(l) != 0 || n != 0 || e != api.ErrArg {
				t.Errorf("%s: All(%d): %v, %d, %d; want none, 0, ErrArg", name, h, l, n, e)
			}
		}
	}
}

// P13.2: each kind of event at each right fact, with each try.
func TestApplyEach(t *testing.T) {
	for _, p := range []api.Plan{one(t), some(t)} {
		for _, i := range steps(p) {
			fits := 0
			for _, f := range rightFacts() {
				l := make([]api.Fact, len(p.Items))
				l[i] = f
				for kind := api.EventKind(-1); kind <= 8; kind++ {
					for try := -1; try <= 5; try++ {
						if _, fault := checkApply(t, p, l, ev(kind, i, try)); fault == api.OK {
							fits++
						}
					}
				}
			}
			// Start; ok, fail; four tries to undo, that undo, three that fail.
			if fits != 14 {
				t.Errorf("%d events fit", fits)
			}
		}
	}
}

// P13.2: what fits, and what is known then.
func TestApply(t *testing.T) {
	p := one(t)
	none := api.Fact{}
	fact := func(run api.Run, tries, slips int, undone bool) api.Fact {
		return api.Fact{Run: run, Tries: tries, Slips: slips, Undone: undone}
	}
	for _, c := range []struct {
		was  api.Fact
		kind api.EventKind
		try  int
		then api.Fact
		want api.Errno
	}{
		{fact(0, 0, 0, false), api.EvStart, 0, fact(1, 0, 0, false), api.OK},
		{fact(1, 0, 0, false), api.EvStart, 0, none, api.ErrState},
		{fact(2, 0, 0, false), api.EvStart, 0, none, api.ErrState},
		{fact(3, 0, 0, false), api.EvStart, 0, none, api.ErrState},
		{fact(0, 0, 0, false), api.EvOk, 0, none, api.ErrState},
		{fact(1, 0, 0, false), api.EvOk, 0, fact(2, 0, 0, false), api.OK},
		{fact(2, 0, 0, false), api.EvOk, 0, none, api.ErrState},
		{fact(3, 0, 0, false), api.EvOk, 0, none, api.ErrState},
		{fact(0, 0, 0, false), api.EvFail, 0, none, api.ErrState},
		{fact(1, 0, 0, false), api.EvFail, 0, fact(3, 0, 0, false), api.OK},
		{fact(2, 0, 0, false), api.EvFail, 0, none, api.ErrState},
		{fact(3, 0, 0, false), api.EvFail, 0, none, api.ErrState},
		{fact(0, 0, 0, false), api.EvUndo, 0, none, api.ErrState},
		{fact(1, 0, 0, false), api.EvUndo, 0, none, api.ErrState},
		{fact(3, 0, 0, false), api.EvUndo, 0, none, api.ErrState},
		{fact(2, 0, 0, false), api.EvUndo, 0, fact(2, 1, 0, false), api.OK},
		{fact(2, 0, 0, false), api.EvUndo, 1, none, api.ErrState},
		{fact(2, 1, 0, false), api.EvUndo, 0, none, api.ErrState},
		{fact(2, 1, 0, false), api.EvUndo, 1, none, api.ErrState},
		{fact(2, 1, 1, false), api.EvUndo, 0, none, api.ErrState},
		{fact(2, 1, 1, false), api.EvUndo, 1, fact(2, 2, 1, false), api.OK},
		{fact(2, 1, 1, false), api.EvUndo, 2, none, api.ErrState},
		{fact(2, 3, 3, false), api.EvUndo, 2, none, api.ErrState},
		{fact(2, 3, 3, false), api.EvUndo, 3, fact(2, 4, 3, false), api.OK},
		{fact(2, 4, 3, false), api.EvUndo, 3, none, api.ErrState},
		{fact(2, 1, 0, true), api.EvUndo, 0, none, api.ErrState},
		{fact(2, 1, 0, true), api.EvUndo, 1, none, api.ErrState},
		{fact(2, 4, 3, true), api.EvUndo, 3, none, api.ErrState},
		{fact(2, 0, 0, false), api.EvUndone, 0, none, api.ErrState},
		{fact(2, 1, 0, false), api.EvUndone, 0, fact(2, 1, 0, true), api.OK},
		{fact(2, 1, 0, false), api.EvUndone, 1, none, api.ErrState},
		{fact(2, 1, 0, true), api.EvUndone, 0, none, api.ErrState},
		{fact(2, 1, 1, false), api.EvUndone, 0, none, api.ErrState},
		{fact(2, 1, 1, false), api.EvUndone, 1, none, api.ErrState},
		{fact(2, 3, 2, false), api.EvUndone, 1, none, api.ErrState},
		{fact(2, 3, 2, false), api.EvUndone, 2, fact(2, 3, 2, true), api.OK},
		{fact(2, 3, 2, false), api.EvUndone, 3, none, api.ErrState},
		{fact(2, 4, 3, false), api.EvUndone, 3, fact(2, 4, 3, true), api.OK},
		{fact(2, 0, 0, false), api.EvSlip, 0, none, api.ErrState},
		{fact(2, 1, 0, false), api.EvSlip, 0, fact(2, 1, 1, false), api.OK},
		{fact(2, 1, 0, false), api.EvSlip, 1, none, api.ErrState},
		{fact(2, 1, 0, true), api.EvSlip, 0, none, api.ErrState},
		{fact(2, 1, 1, false), api.EvSlip, 0, none, api.ErrState},
		{fact(2, 1, 1, false), api.EvSlip, 1, none, api.ErrState},
		{fact(2, 2, 1, false), api.EvSlip, 0, none, api.ErrState},
		{fact(2, 2, 1, false), api.EvSlip, 1, fact(2, 2, 2, false), api.OK},
		{fact(2, 2, 1, false), api.EvSlip, 2, none, api.ErrState},
		{fact(2, 3, 2, false), api.EvSlip, 2, fact(2, 3, 3, false), api.OK},
		{fact(2, 4, 3, false), api.EvSlip, 2, none, api.ErrState},
		{fact(2, 4, 3, false), api.EvSlip, 3, none, api.ErrState},
		{fact(2, 4, 3, true), api.EvSlip, 3, none, api.ErrState},
	} {
		then, fault := Apply(p, []api.Fact{{}, c.was}, ev(c.kind, 1, c.try))
		var want []api.Fact
		if c.want == api.OK {
			want = []api.Fact{{}, c.then}
		}
		if !slices.Equal(then, want) || fault != c.want {
			t.Errorf("%v, event %d.%d: %v, %d; want %v, %d", c.was, c.kind, c.try, then, fault, want, c.want)
		}
	}
}

// P13.2: an event that is right, of an item that is no step, does not fit; of one that may be none at all, it is not right.
func TestApplyItems(t *testing.T) {
	for _, p := range []api.Plan{one(t), some(t), greatest(t)} {
		n := len(p.Items)
		for _, item := range []int{least, -1, 0, 1, 2, 3, 4, 5, 6, 7, 8, 9, n - 1, n, n + 1, 62, 63, 64, 65, most} {
			want := api.ErrState
			if item < 1 || item > 63 {
				want = api.ErrArg
			}
			for kind := api.EvStart; kind <= api.EvSlip; kind++ {
				e := want
				if slices.Contains(steps(p), item) && kind == api.EvStart {
					e = api.OK
				}
				if _, fault := checkApply(t, p, None(p), ev(kind, item, 0)); fault != e {
					t.Errorf("%d items, kind %d, item %d: %d, want %d", n, kind, item, fault, e)
				}
			}
		}
	}
}

// P13.2: what is not right is told ahead of what does not fit, whichever it is.
func TestApplyWrong(t *testing.T) {
	p := some(t)
	began := []api.Fact{{}, {Run: 1}, {}, {Run: 2}, {Run: 2, Tries: 1}, {}, {}}
	fits, not := ev(api.EvOk, 1, 0), ev(api.EvStart, 1, 0)
	notSteps := []api.Event{ev(api.EvStart, 2, 0), ev(api.EvStart, 5, 0), ev(api.EvStart, 7, 0)}
	checkApply(t, p, began, fits)
	for _, e := range wrongEvents() {
		if then, fault := checkApply(t, p, began, e); len(then) != 0 || fault != api.ErrArg {
			t.Errorf("%d: %v, %d; want none, ErrArg", e, then, fault)
		}
	}
	for _, l := range [][]api.Fact{
		nil, {}, began[:6], append(slices.Clone(began), api.Fact{}), append(slices.Clone(began), began...),
		{{Run: 1}, {Run: 1}, {}, {}, {}, {}, {}},
		{{}, {Run: 1}, {Run: 1}, {}, {}, {}, {}},
		{{}, {Run: 1}, {}, {}, {}, {Run: 2}, {}},
		{{}, {Run: 1}, {}, {}, {}, {}, {Run: 4}},
		{{}, {Run: 1}, {}, {}, {}, {}, {Run: 1, Tries: 1}},
		{{}, {Run: 1, Undone: true}, {}, {}, {}, {}, {}},
	} {
		for _, e := range slices.Concat(notSteps, wrongEvents(), []api.Event{fits, not, {}}) {
			if then, fault := checkApply(t, p, l, e); len(then) != 0 || fault != api.ErrArg {
				t.Errorf("%v, %d: %v, %d; want none, ErrArg", l, e, then, fault)
			}
		}
	}
	for _, e := range append(notSteps, not) {
		if then, fault := checkApply(t, p, began, e); len(then) != 0 || fault != api.ErrState {
			t.Errorf("%d: %v, %d; want none, ErrState", e, then, fault)
		}
	}
}

// P13.2: stamps do not matter, as long as they are right.
func TestApplyStamps(t *testing.T) {
	p := one(t)
	for _, stamp := range [][]int{{0}, {1}, {top}, {0, 0}, {7, top, 0}, make([]int, 64), slices.Repeat([]int{top}, 64)} {
		e := ev(api.EvStart, 1, 0)
		e.Stamp = stamp
		if then, fault := checkApply(t, p, None(p), e); fault != api.OK || then[1].Run != api.RunBegun {
			t.Errorf("%d: %v, %d", stamp, then, fault)
		}
	}
}

// P13.2, P13.5, P13.7: any facts, and any events.
func TestApplyAny(t *testing.T) {
	r := rand.New(rand.NewSource(2))
	fits, not := 0, 0
	for _, p := range []api.Plan{one(t), some(t), greatest(t)} {
		for range 600 {
			if _, fault := checkApply(t, p, anyFacts(r, p), anyEvent(r, p)); fault == api.OK {
				fits++
			} else {
				not++
			}
		}
	}
	if fits < 50 || not < 50 {
		t.Error(fits, not)
	}
}

// P13.3: each way that a step may go, as far as each of its events, and each event behind that.
func TestAllWays(t *testing.T) {
	p := some(t)
	for _, text := range beginnings() {
		h := events(3, text)
		l, n, fault := checkAll(t, p, h)
		if fault != api.OK || n != len(h) || l[3] != known(text) {
			t.Fatalf("%q: %v, %d, %d", text, l, n, fault)
		}
		for kind := api.EventKind(0); kind <= 7; kind++ {
			for try := -1; try <= 4; try++ {
				longer := append(slices.Clone(h), ev(kind, 3, try))
				if _, n, fault := checkAll(t, p, longer); fault != api.OK && n != len(h) {
					t.Fatalf("%d: %d, %d", longer, n, fault)
				}
			}
		}
	}
}

// P13.3: the first error, its place, and no facts.
func TestAllErrors(t *testing.T) {
	p := some(t)
	good := slices.Concat(events(1, "s0 o0"), events(3, "s0 f0"), events(1, "u0 l0 u1"))
	last := len(good)
	if l, n, e := checkAll(t, p, good); e != api.OK || n != last || len(l) != 7 {
		t.Errorf("%v, %d, %d", l, n, e)
	}
	faults := []struct {
		e    api.Event
		want api.Errno
	}{
		{ev(api.EvFail, 6, 0), api.ErrState}, {ev(api.EvStart, 2, 0), api.ErrState}, {ev(api.EvStart, 7, 0), api.ErrState}, {ev(api.EvSlip, 1, 3), api.ErrState},
		{ev(api.EvStart, 0, 0), api.ErrArg}, {ev(api.EvStart, 64, 0), api.ErrArg}, {ev(0, 6, 0), api.ErrArg}, {ev(7, 6, 0), api.ErrArg}, {ev(api.EvStart, 6, 1), api.ErrArg}, {ev(api.EvUndo, 1, 4), api.ErrArg}, {api.Event{Kind: api.EvStart, Item: 6}, api.ErrArg}, {api.Event{}, api.ErrArg},
	}
	for at := range last + 1 {
		for _, first := range faults {
			for _, second := range faults {
				h := slices.Insert(slices.Clone(good), at, first.e, second.e)
				// With what is behind it, and as the last one.
				for _, h := range [][]api.Event{h, h[:at+1]} {
					if l, n, e := checkAll(t, p, h); len(l) != 0 || n != at || e != first.want {
						t.Errorf("%d: %v, %d, %d; want none, %d, %d", h, l, n, e, at, first.want)
					}
				}
			}
		}
	}
}

// P13.3: no events.
func TestAllOfNone(t *testing.T) {
	for _, p := range []api.Plan{one(t), some(t), greatest(t)} {
		for _, h := range [][]api.Event{nil, {}} {
			if l, n, e := checkAll(t, p, h); !slices.Equal(l, None(p)) || len(l) != len(p.Items) || n != 0 || e != api.OK {
				t.Errorf("%v, %d, %d", l, n, e)
			}
		}
	}
}

// P13.3, P13.5: histories, and turned ones.
func TestAllAny(t *testing.T) {
	r := rand.New(rand.NewSource(3))
	faults := map[api.Errno]int{}
	for range 400 {
		p := []api.Plan{one(t), some(t)}[r.Intn(2)]
		h := anyHistory(r, p, r.Intn(40))
		if _, _, e := checkAll(t, p, h); e != api.OK {
			t.Fatal(h, int(e))
		}
		for range 3 {
			h = anyTurn(r, p, h)
			_, _, e := checkAll(t, p, h)
			faults[e]++
		}
	}
	for _, e := range []api.Errno{api.OK, api.ErrArg, api.ErrState} {
		if faults[e] < 50 {
			t.Error(faults)
		}
	}
}

// P13.3: the longest history of the greatest plan: each step is undone by the fourth try.
func TestAllLongest(t *testing.T) {
	p := greatest(t)
	var h []api.Event
	for at := range strings.Fields(ways()[4]) {
		for _, i := range steps(p) {
			h = append(h, events(i, ways()[4])[at])
		}
	}
	l, n, e := checkAll(t, p, h)
	if n != 630 || e != api.OK {
		t.Error(n, int(e))
	}
	for _, i := range steps(p) {
		if l[i] != (api.Fact{Run: api.RunOk, Tries: 4, Slips: 3, Undone: true}) {
			t.Error(i, l[i])
		}
	}
	// None of the events fits any more.
	for _, e := range h[:63] {
		if _, n, fault := All(p, append(slices.Clone(h), e)); n != 630 || fault != api.ErrState {
			t.Error(e, n, int(fault))
		}
	}
}

// P13.4
func TestOpen(t *testing.T) {
	p := some(t)
	ended := api.Fact{Run: 2, Tries: 1, Undone: true}
	for _, c := range []struct {
		l    []api.Fact
		want []api.Key
	}{
		{nil, nil},
		{[]api.Fact{{}, {Run: 1}}, nil},
		{[]api.Fact{{}, {Run: 1}, {}, {}, {}, {}, {Run: 4}}, nil},
		{[]api.Fact{{}, {Run: 1}, {Run: 1}, {}, {}, {}, {}}, nil},
		{[]api.Fact{{Run: 1}, {}, {}, {}, {}, {}, {}}, nil},
		{[]api.Fact{{}, {}, {}, {}, {}, {}, {}}, nil},
		{[]api.Fact{{}, {Run: 2}, {}, {Run: 3}, ended, {}, {Run: 2, Tries: 3, Slips: 3}}, nil},
		{[]api.Fact{{}, {Run: 1}, {}, {}, {}, {}, {}}, []api.Key{{Item: 1}}},
		{[]api.Fact{{}, {}, {}, {}, {}, {}, {Run: 1}}, []api.Key{{Item: 6}}},
		{[]api.Fact{{}, {}, {}, {Run: 2, Tries: 1}, {}, {}, {}}, []api.Key{{Item: 3, Undo: true}}},
		{[]api.Fact{{}, {}, {}, {Run: 2, Tries: 2, Slips: 1}, {}, {}, {}}, []api.Key{{Item: 3, Undo: true, Try: 1}}},
		{[]api.Fact{{}, {}, {}, {Run: 2, Tries: 2, Slips: 2}, {}, {}, {}}, nil},
		{[]api.Fact{{}, {}, {}, {Run: 2, Tries: 4, Slips: 3}, {}, {}, {}}, []api.Key{{Item: 3, Undo: true, Try: 3}}},
		{[]api.Fact{{}, {}, {}, {Run: 2, Tries: 4, Slips: 3, Undone: true}, {}, {}, {}}, nil},
		{[]api.Fact{{}, {Run: 2, Tries: 3, Slips: 2}, {}, {Run: 1}, ended, {}, {Run: 1}}, []api.Key{{Item: 1, Undo: true, Try: 2}, {Item: 3}, {Item: 6}}},
		{[]api.Fact{{}, {Run: 1}, {}, {Run: 2, Tries: 1}, {Run: 1}, {}, {Run: 2, Tries: 4, Slips: 3}}, []api.Key{{Item: 1}, {Item: 3, Undo: true}, {Item: 4}, {Item: 6, Undo: true, Try: 3}}},
	} {
		if keys := Open(p, c.l); !slices.Equal(keys, c.want) {
			t.Errorf("Open(%v): %v, want %v", c.l, keys, c.want)
		}
	}
	full := slices.Repeat([]api.Fact{{Run: 1}}, 64)
	full[0] = api.Fact{}
	keys := Open(greatest(t), full)
	for at, k := range keys {
		if k != (api.Key{Item: at + 1}) {
			t.Error(at, k)
		}
	}
	if len(keys) != 63 {
		t.Error(keys)
	}
}

// P13.4: what is open is what may end: an event that begins something opens it, one that ends it closes it.
func TestOpenAndClosed(t *testing.T) {
	r := rand.New(rand.NewSource(4))
	p := some(t)
	for range 50 {
		var open []api.Key
		l := None(p)
		for _, e := range anyHistory(r, p, 30) {
			k := api.Key{Item: e.Item, Undo: e.Kind > api.EvFail, Try: e.Try}
			if e.Kind == api.EvStart || e.Kind == api.EvUndo {
				open = append(open, k)
			} else {
				open = slices.DeleteFunc(open, func(o api.Key) bool { return o == k })
			}
			slices.SortFunc(open, func(a, b api.Key) int { return a.Item - b.Item })
			l, _ = Apply(p, l, e)
			if keys := Open(p, l); !slices.Equal(keys, open) {
				t.Fatalf("%v: %v, want %v", l, keys, open)
			}
		}
	}
}

// rightEvents are all kinds of events of an item, with all tries.
func rightEvents(item int) []api.Event {
	var l []api.Event
	for kind := api.EvStart; kind <= api.EvSlip; kind++ {
		for try := range 4 {
			if e := ev(kind, item, try); eventRight(e) {
				l = append(l, e)
			}
		}
	}
	return l
}

// P13.5: each fact to which events lead is right, and to each that is right some do.
func TestRight(t *testing.T) {
	p := one(t)
	met := []api.Fact{{}}
	for at := 0; at < len(met); at++ {
		for _, e := range rightEvents(1) {
			l, fault := Apply(p, []api.Fact{{}, met[at]}, e)
			if fault != api.OK {
				continue
			}
			if Check(p, l) != api.OK || l[0] != (api.Fact{}) {
				t.Fatal(l)
			}
			if !slices.Contains(met, l[1]) {
				met = append(met, l[1])
			}
		}
	}
	if len(met) != 15 {
		t.Error(met)
	}
}

// P13.6: all two events of unlike items, at all facts, in both orders: whether either fits does not hang on the other one.
func TestBeside(t *testing.T) {
	p := made(t, "saga t { ( step a undo u ; step b undo u after a ; ) }")
	both := 0
	for _, f := range rightFacts() {
		for _, g := range rightFacts() {
			for _, a := range rightEvents(1) {
				for _, b := range rightEvents(2) {
					if beside(t, p, []api.Fact{{}, f, g}, a, b) {
						both++
					}
				}
			}
		}
	}
	// 14 events fit, each at one fact.
	if both != 14*14 {
		t.Error(both)
	}
	// One of them of an item that is no step, or not right.
	for _, e := range append(wrongEvents(), ev(api.EvStart, 3, 0), ev(api.EvStart, 63, 0)) {
		if e.Item != 1 {
			beside(t, p, None(p), ev(api.EvStart, 1, 0), e)
		}
	}
}

// beside holds two events against each other, and tells whether both fit.
func beside(t *testing.T, p api.Plan, l []api.Fact, a, b api.Event) bool {
	t.Helper()
	apply := func(first, second api.Event) ([]api.Fact, api.Errno, api.Errno) {
		then, e := Apply(p, l, first)
		if e != api.OK {
			then = l
		}
		last, f := Apply(p, then, second)
		if f != api.OK {
			last = then
		}
		return last, e, f
	}
	ab, firstA, secondB := apply(a, b)
	ba, firstB, secondA := apply(b, a)
	if !slices.Equal(ab, ba) || firstA != secondA || firstB != secondB {
		t.Fatalf("%v, %d, %d: %v, %v", l, a, b, ab, ba)
	}
	return firstA == api.OK && firstB == api.OK
}

// P13.6: so a history's facts are those of any order that leaves each step's events as they are.
func TestAnyOrder(t *testing.T) {
	r := rand.New(rand.NewSource(6))
	p := some(t)
	for range 100 {
		h := anyHistory(r, p, 40)
		want, _, _ := All(p, h)
		for range 200 {
			k := r.Intn(len(h))
			if k > 0 && h[k-1].Item != h[k].Item {
				h[k-1], h[k] = h[k], h[k-1]
			}
		}
		if l, _, e := checkAll(t, p, h); !slices.Equal(l, want) || e != api.OK {
			t.Fatalf("%d: %v, want %v", h, l, want)
		}
	}
}

// P13.7: an event that fitted does not fit again, nor does it with another stamp.
func TestOnce(t *testing.T) {
	p := some(t)
	fits := 0
	for _, f := range rightFacts() {
		for _, e := range rightEvents(6) {
			l, fault := Apply(p, []api.Fact{{}, {}, {}, {}, {}, {}, f}, e)
			if fault != api.OK {
				continue
			}
			fits++
			for _, stamp := range [][]int{{1}, {2}, {0, 5}} {
				e.Stamp = stamp
				if again, fault := Apply(p, l, e); len(again) != 0 || fault != api.ErrState {
					t.Errorf("%v, %d: %v, %d", l, e, again, fault)
				}
			}
		}
	}
	if fits != 14 {
		t.Error(fits)
	}
}

// The example of the chapter.
func TestExample(t *testing.T) {
	p := one(t)
	l := None(p)
	for _, c := range []struct {
		e    api.Event
		want api.Fact
		open []api.Key
	}{
		{ev(api.EvStart, 1, 0), api.Fact{Run: 1}, []api.Key{{Item: 1}}},
		{ev(api.EvOk, 1, 0), api.Fact{Run: 2}, nil},
		{ev(api.EvUndo, 1, 0), api.Fact{Run: 2, Tries: 1}, []api.Key{{Item: 1, Undo: true, Try: 0}}},
		{ev(api.EvSlip, 1, 0), api.Fact{Run: 2, Tries: 1, Slips: 1}, nil},
	} {
		var e api.Errno
		if l, e = Apply(p, l, c.e); e != api.OK || !slices.Equal(l, []api.Fact{{}, c.want}) || !slices.Equal(Open(p, l), c.open) {
			t.Fatalf("%d: %v, %d, %v", c.e, l, e, Open(p, l))
		}
	}
	if l, e := Apply(p, l, ev(api.EvUndo, 1, 0)); len(l) != 0 || e != api.ErrState {
		t.Errorf("%v, %d", l, e)
	}
}

// What is handed in stays as it was, what stands behind its end, too.
func TestArgumentsStay(t *testing.T) {
	p := some(t)
	behind := api.Fact{Run: 9, Tries: 9, Slips: 9, Undone: true}
	room := []api.Fact{{}, {Run: 1}, {}, {Run: 2}, {Run: 2, Tries: 1}, {}, {}, behind, behind}
	l, kept := room[:7], slices.Clone(room)
	log := slices.Concat(events(1, "s0 o0"), events(3, "s0"), []api.Event{{Kind: 9}})
	h, keptLog := log[:3], cloneLog(log)
	items := some(t).Items
	for _, e := range []api.Event{ev(api.EvOk, 1, 0), ev(api.EvStart, 1, 0), ev(api.EvUndo, 3, 0), ev(api.EvUndone, 4, 0), ev(api.EvStart, 6, 0), ev(api.EvStart, 2, 0), {}} {
		Check(p, l)
		Apply(p, l, e)
		Open(p, l)
		None(p)
		All(p, h)
		if !slices.Equal(room, kept) || !slices.EqualFunc(log, keptLog, sameEvent) {
			t.Fatalf("%d: %v, %d", e, room, log)
		}
	}
	for i, x := range p.Items {
		y := items[i]
		if !slices.Equal(x.After, y.After) || x.Name != y.Name || x.Undo != y.Undo || x.Sub != y.Sub || x.In != y.In {
			t.Error(i, x)
		}
	}
}

// spoil writes over all the room of a list.
func spoil[E any](l []E, with E) {
	l = l[:cap(l)]
	for i := range l {
		l[i] = with
	}
}

// What is told is not the memory of what was handed in, nor that of another answer.
func TestAnswersAreNew(t *testing.T) {
	p := some(t)
	wrong := api.Fact{Run: 9}
	l := append(make([]api.Fact, 0, 20), api.Fact{}, api.Fact{Run: 1}, api.Fact{}, api.Fact{Run: 2, Tries: 1}, api.Fact{}, api.Fact{}, api.Fact{})
	h := slices.Concat(events(1, "s0"), events(3, "s0 o0 u0"))
	kept, e := slices.Clone(l), ev(api.EvOk, 1, 0)
	then, _ := expectApply(p, l, e)
	for range 3 {
		none, applied, open := None(p), []api.Fact(nil), Open(p, l)
		applied, _ = Apply(p, l, e)
		all, _, _ := All(p, h)
		if !slices.Equal(none, make([]api.Fact, 7)) || !slices.Equal(applied, then) || !slices.Equal(all, kept) || !slices.Equal(open, []api.Key{{Item: 1}, {Item: 3, Undo: true}}) {
			t.Fatal(none, applied, all, open)
		}
		spoil(none, wrong)
		spoil(applied, wrong)
		spoil(all, wrong)
		spoil(open, api.Key{Item: 9})
		if !slices.Equal(l, kept) {
			t.Fatal(l)
		}
	}
	// Nor is it turned when what was handed in is.
	applied, _ := Apply(p, l, e)
	spoil(l, wrong)
	if !slices.Equal(applied, then) {
		t.Error(applied)
	}
}
