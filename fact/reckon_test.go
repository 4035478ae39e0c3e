package fact

import (
	"math"
	"math/rand"
	"slices"
	"strconv"
	"strings"
	"testing"

	"argosy/api"
	"argosy/plan"
	"argosy/syntax"
)

const (
	top   = 1 << 40
	least = math.MinInt
	most  = math.MaxInt
)

// The second reckoning: a step's events are a text of letters, each with its try. There are five ways that a step may go to its end; its events may be, if their text is the beginning of such a way; and what is known of it is counted off that text.

func ways() []string {
	return []string{
		"s0 f0",
		"s0 o0 u0 d0",
		"s0 o0 u0 l0 u1 d1",
		"s0 o0 u0 l0 u1 l1 u2 d2",
		"s0 o0 u0 l0 u1 l1 u2 l2 u3 d3",
	}
}

const letters = " sofudl"

func word(e api.Event) string { return string(letters[e.Kind]) + strconv.Itoa(e.Try) }

// beginnings are all texts that a step's events may have: that of no events first.
func beginnings() []string {
	var all []string
	for _, way := range ways() {
		words := strings.Fields(way)
		for n := range len(words) + 1 {
			if text := strings.Join(words[:n], " "); !slices.Contains(all, text) {
				all = append(all, text)
			}
		}
	}
	return all
}

// known is what is known of a step behind events of such a text.
func known(text string) api.Fact {
	f := api.Fact{Tries: strings.Count(text, "u"), Slips: strings.Count(text, "l"), Undone: strings.Contains(text, "d")}
	for run, letter := range []string{1: "s", 2: "o", 3: "f"} {
		if run > 0 && strings.Contains(text, letter) {
			f.Run = api.Run(run)
		}
	}
	return f
}

// rightFacts are those of all beginnings, by these.
func rightFacts() []api.Fact {
	var all []api.Fact
	for _, text := range beginnings() {
		all = append(all, known(text))
	}
	return all
}

func eventRight(e api.Event) bool {
	if len(e.Stamp) == 0 || len(e.Stamp) > 64 || slices.Min(e.Stamp) < 0 || slices.Max(e.Stamp) > top {
		return false
	}
	if e.Kind < 1 || e.Kind > 6 || e.Item < 1 || e.Item > 63 || e.Try < 0 || e.Try > 3 {
		return false
	}
	return e.Kind > 3 || e.Try == 0
}

// expectCheck is asked of plans that are right.
func expectCheck(p api.Plan, l []api.Fact) api.Errno {
	if len(l) != len(p.Items) {
		return api.ErrArg
	}
	rights := rightFacts()
	for i, x := range p.Items {
		if x.Sub && l[i] != (api.Fact{}) || !slices.Contains(rights, l[i]) {
			return api.ErrArg
		}
	}
	return api.OK
}

// expectApply puts the event's word behind the text that the step's fact was counted off.
func expectApply(p api.Plan, l []api.Fact, e api.Event) ([]api.Fact, api.Errno) {
	if expectCheck(p, l) != api.OK || !eventRight(e) {
		return nil, api.ErrArg
	}
	if e.Item > len(p.Items)-1 || p.Items[e.Item].Undo == "" {
		return nil, api.ErrState
	}
	all := beginnings()
	text := all[slices.Index(rightFacts(), l[e.Item])]
	text = strings.TrimSpace(text + " " + word(e))
	if !slices.Contains(all, text) {
		return nil, api.ErrState
	}
	then := slices.Clone(l)
	then[e.Item] = known(text)
	return then, api.OK
}

// expectAll writes down each step's text, and counts at the end.
func expectAll(p api.Plan, h []api.Event) ([]api.Fact, int, api.Errno) {
	texts := make([]string, len(p.Items))
	for at, e := range h {
		if !eventRight(e) {
			return nil, at, api.ErrArg
		}
		if e.Item > len(p.Items)-1 || p.Items[e.Item].Undo == "" {
			return nil, at, api.ErrState
		}
		texts[e.Item] = strings.TrimSpace(texts[e.Item] + " " + word(e))
		if !slices.Contains(beginnings(), texts[e.Item]) {
			return nil, at, api.ErrState
		}
	}
	var l []api.Fact
	for _, text := range texts {
		l = append(l, known(text))
	}
	return l, len(h), api.OK
}

// expectOpen looks for facts behind which a step ends, or a try to undo it.
func expectOpen(p api.Plan, l []api.Fact) []api.Key {
	var keys []api.Key
	if expectCheck(p, l) != api.OK {
		return nil
	}
	for i, f := range l {
		words := strings.Fields(beginnings()[slices.Index(rightFacts(), f)])
		if len(words) == 0 {
			continue
		}
		switch last := words[len(words)-1]; last[0] {
		case 's':
			keys = append(keys, api.Key{Item: i})
		case 'u':
			keys = append(keys, api.Key{Item: i, Undo: true, Try: int(last[1] - '0')})
		}
	}
	return keys
}

// checkFacts holds Check and Open of facts against the second reckoning.
func checkFacts(t *testing.T, p api.Plan, l []api.Fact) {
	t.Helper()
	was := slices.Clone(l)
	if got, want := Check(p, l), expectCheck(p, l); got != want {
		t.Fatalf("Check(%v): %d, want %d", l, got, want)
	}
	if got, want := Open(p, l), expectOpen(p, l); !slices.Equal(got, want) {
		t.Fatalf("Open(%v): %v, want %v", l, got, want)
	}
	if !slices.Equal(l, was) {
		t.Fatalf("Check or Open turned %v into %v", was, l)
	}
}

// checkApply holds Apply against the second reckoning, and against P13.5 and P13.7.
func checkApply(t *testing.T, p api.Plan, l []api.Fact, e api.Event) ([]api.Fact, api.Errno) {
	t.Helper()
	was, stamp := slices.Clone(l), slices.Clone(e.Stamp)
	then, fault := Apply(p, l, e)
	want, wanted := expectApply(p, l, e)
	if !slices.Equal(then, want) || fault != wanted {
		t.Fatalf("Apply(%v, %d): %v, %d; want %v, %d", l, e, then, fault, want, wanted)
	}
	if !slices.Equal(l, was) || !slices.Equal(e.Stamp, stamp) {
		t.Fatalf("Apply turned %v, %d into %v, %d", was, stamp, l, e.Stamp)
	}
	if fault != api.OK {
		return then, fault
	}
	if Check(p, then) != api.OK {
		t.Fatalf("Apply(%v, %d): %v are not right", l, e, then)
	}
	if twice, fault := Apply(p, then, e); len(twice) != 0 || fault != api.ErrState {
		t.Fatalf("Apply(%v, %d) twice: %v, %d", l, e, twice, fault)
	}
	return then, fault
}

// checkAll holds All against the second reckoning, and against Apply, event by event.
func checkAll(t *testing.T, p api.Plan, h []api.Event) ([]api.Fact, int, api.Errno) {
	t.Helper()
	was := cloneLog(h)
	l, n, fault := All(p, h)
	want, wantN, wanted := expectAll(p, h)
	if !slices.Equal(l, want) || n != wantN || fault != wanted {
		t.Fatalf("All(%d): %v, %d, %d; want %v, %d, %d", h, l, n, fault, want, wantN, wanted)
	}
	if !slices.EqualFunc(h, was, sameEvent) {
		t.Fatalf("All turned %d into %d", was, h)
	}
	then := None(p)
	for at, e := range h {
		next, f := Apply(p, then, e)
		if f != api.OK {
			if at != n || f != fault {
				t.Fatalf("All(%d): %d, %d; Apply: %d, %d", h, n, fault, at, f)
			}
			return l, n, fault
		}
		then = next
	}
	if !slices.Equal(l, then) || Check(p, l) != api.OK {
		t.Fatalf("All(%d): %v; Apply: %v", h, l, then)
	}
	return l, n, fault
}

func sameEvent(a, b api.Event) bool {
	return a.Kind == b.Kind && a.Item == b.Item && a.Try == b.Try && slices.Equal(a.Stamp, b.Stamp)
}

func cloneLog(h []api.Event) []api.Event {
	var l []api.Event
	for _, e := range h {
		e.Stamp = slices.Clone(e.Stamp)
		l = append(l, e)
	}
	return l
}

func made(t *testing.T, text string) api.Plan {
	t.Helper()
	g, at, e := syntax.Read(text)
	if e != api.OK {
		t.Fatal(text, at, int(e))
	}
	p, e := plan.Make(g)
	if e != api.OK {
		t.Fatal(text, int(e))
	}
	return p
}

// one is a plan of a step 1; some one of the steps 1, 3, 4 and 6, the saga 0, and the sub-sagas 2 and 5.
func one(t *testing.T) api.Plan { return made(t, "saga t { ( step a undo b ; ) }") }

func some(t *testing.T) api.Plan {
	return made(t, "saga t { ( step a undo u ; vital sub s after a { ( step c undo u ; ) or ( step d undo a ; ) } loose sub r { ( step e undo u ; ) } ) }")
}

// greatest is a plan of 63 steps.
func greatest(t *testing.T) api.Plan {
	var bodies []string
	for from := 1; from < 64; from += 16 {
		body := "("
		for i := from; i < min(from+16, 64); i++ {
			body += " step n" + strconv.Itoa(i) + " undo u ;"
		}
		bodies = append(bodies, body+" )")
	}
	return made(t, "saga t { "+strings.Join(bodies, " or ")+" }")
}

func steps(p api.Plan) []int {
	var l []int
	for i, x := range p.Items {
		if x.Undo != "" {
			l = append(l, i)
		}
	}
	return l
}

// wrongPlans are such as have no saga that may be run.
func wrongPlans(t *testing.T) map[string]api.Plan {
	turned := func(turn func(l []api.Item) []api.Item) api.Plan {
		return api.Plan{Items: turn(some(t).Items)}
	}
	return map[string]api.Plan{
		"no items":             {},
		"an empty list":        {Items: []api.Item{}},
		"a zero item":          {Items: make([]api.Item, 1)},
		"seven zero items":     {Items: make([]api.Item, 7)},
		"65 items":             {Items: make([]api.Item, 65)},
		"the saga alone":       turned(func(l []api.Item) []api.Item { return l[:1] }),
		"the saga twice":       turned(func(l []api.Item) []api.Item { return append(l, l[0]) }),
		"an item twice":        turned(func(l []api.Item) []api.Item { return append(l, l[6]) }),
		"without the saga":     turned(func(l []api.Item) []api.Item { return l[1:] }),
		"without the last one": turned(func(l []api.Item) []api.Item { return l[:6] }),
		"a step without undo":  turned(func(l []api.Item) []api.Item { l[1].Undo = ""; return l }),
		"a step in itself":     turned(func(l []api.Item) []api.Item { l[1].In = 1; return l }),
		"a step that is vital": turned(func(l []api.Item) []api.Item { l[1].Vital = true; return l }),
		"a sub with undo":      turned(func(l []api.Item) []api.Item { l[2].Undo = "u"; return l }),
		"a sub that is a step": turned(func(l []api.Item) []api.Item { l[5].Sub, l[5].Undo = false, "u"; return l }),
		"a saga that is none":  turned(func(l []api.Item) []api.Item { l[0].Sub = false; return l }),
		"a circle":             turned(func(l []api.Item) []api.Item { l[1].After = []int{2}; return l }),
		"leans on what is not": turned(func(l []api.Item) []api.Item { l[1].After = []int{7}; return l }),
		"a name that is none":  turned(func(l []api.Item) []api.Item { l[6].Name = "or"; return l }),
	}
}

func ev(k api.EventKind, item, try int) api.Event {
	return api.Event{Kind: k, Item: item, Try: try, Stamp: []int{1}}
}

// events are those of a step that a text tells.
func events(item int, text string) []api.Event {
	var l []api.Event
	for _, w := range strings.Fields(text) {
		l = append(l, ev(api.EventKind(strings.IndexByte(letters, w[0])), item, int(w[1]-'0')))
	}
	return l
}

// wrongEvents are such as are not right by one thing alone: kind, item, try or stamp.
func wrongEvents() []api.Event {
	var l []api.Event
	for _, e := range []api.Event{ev(api.EvStart, 1, 0), ev(api.EvOk, 3, 0), ev(api.EvUndo, 1, 3), ev(api.EvSlip, 4, 0), ev(api.EvUndone, 63, 2)} {
		add := func(turned api.Event) {
			if !eventRight(turned) {
				l = append(l, turned)
			}
		}
		for _, n := range []int{least, -256, -1, 0, 1, 3, 4, 5, 7, 64, 65, 256, 257, 1<<32 + 1, most} {
			kind, item, try := e, e, e
			kind.Kind, item.Item, try.Try = api.EventKind(n), n, n
			add(kind)
			add(item)
			add(try)
		}
		for _, stamp := range [][]int{nil, {}, {-1}, {0, -1}, {top + 1}, {0, top + 1}, make([]int, 65), {least}, {most}} {
			stamped := e
			stamped.Stamp = stamp
			add(stamped)
		}
	}
	return l
}

// anyFacts picks right facts.
func anyFacts(r *rand.Rand, p api.Plan) []api.Fact {
	rights := rightFacts()
	l := make([]api.Fact, len(p.Items))
	for _, i := range steps(p) {
		l[i] = rights[r.Intn(len(rights))]
	}
	return l
}

// anyEvent picks a right event.
func anyEvent(r *rand.Rand, p api.Plan) api.Event {
	e := ev(api.EventKind(1+r.Intn(6)), min(1+r.Intn(len(p.Items)+1), 63), 0)
	if e.Kind > api.EvFail {
		e.Try = r.Intn(4)
	}
	e.Stamp = make([]int, 1+r.Intn(3))
	return e
}

// anyHistory lets steps go so many events on, each on a way of its own, one or the other first.
func anyHistory(r *rand.Rand, p api.Plan, count int) []api.Event {
	var h []api.Event
	left := map[int][]api.Event{}
	for _, i := range steps(p) {
		left[i] = events(i, ways()[r.Intn(len(ways()))])
	}
	for range count {
		i := steps(p)[r.Intn(len(steps(p)))]
		if len(left[i]) > 0 {
			h, left[i] = append(h, left[i][0]), left[i][1:]
		}
	}
	return h
}

// anyTurn leaves out, doubles, puts elsewhere or turns an event of a history.
func anyTurn(r *rand.Rand, p api.Plan, h []api.Event) []api.Event {
	h = cloneLog(h)
	if len(h) == 0 {
		return []api.Event{anyEvent(r, p)}
	}
	i, k := r.Intn(len(h)), r.Intn(len(h))
	switch r.Intn(6) {
	case 0:
		return slices.Delete(h, i, i+1)
	case 1:
		return cloneLog(slices.Insert(h, k, h[i]))
	case 2:
		h[i], h[k] = h[k], h[i]
	case 3:
		h[i] = anyEvent(r, p)
	case 4:
		h[i] = wrongEvents()[r.Intn(len(wrongEvents()))]
	case 5:
		h[i].Try += r.Intn(3) - 1
	}
	return h
}
