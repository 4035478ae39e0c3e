package state

import (
	"math"
	"math/rand"
	"slices"
	"strconv"
	"strings"
	"testing"

	"argosy/api"
	"argosy/plan"
	"argosy/syntax"
)

const (
	least = math.MinInt
	most  = math.MaxInt
)

// A form is a saga and what is known of its steps in one text: each step is a letter that says its fact, V( .. ) is a vital sub-saga, L( .. ) one that is not, and | stands between bodies.

// factOf tells the fact that a letter says: idle, begun, ok, failed; a try on its way, the first one or the last one; a try that failed, or three; undone by the first try, or by the last one.
func factOf(letter rune) (api.Fact, bool) {
	switch letter {
	case '.':
		return api.Fact{}, true
	case '>':
		return api.Fact{Run: api.RunBegun}, true
	case '+':
		return api.Fact{Run: api.RunOk}, true
	case '-':
		return api.Fact{Run: api.RunFailed}, true
	case '~':
		return api.Fact{Run: api.RunOk, Tries: 1}, true
	case '4':
		return api.Fact{Run: api.RunOk, Tries: 4, Slips: 3}, true
	case 's':
		return api.Fact{Run: api.RunOk, Tries: 1, Slips: 1}, true
	case '3':
		return api.Fact{Run: api.RunOk, Tries: 3, Slips: 3}, true
	case 'u':
		return api.Fact{Run: api.RunOk, Tries: 1, Undone: true}, true
	case 'z':
		return api.Fact{Run: api.RunOk, Tries: 4, Slips: 3, Undone: true}, true
	}
	return api.Fact{}, false
}

// letters are all that say facts; unlike one of each that stands otherwise.
const (
	letters = ".>+-~4s3uz"
	unlike  = ".>+-~su"
)

// formed tells a form's plan, and its facts.
func formed(t testing.TB, form string) (api.Plan, []api.Fact) {
	t.Helper()
	text, l := "saga t { (", []api.Fact{{}}
	for _, letter := range form {
		name := "n" + strconv.Itoa(len(l))
		switch letter {
		case 'V':
			text += " vital sub " + name
			l = append(l, api.Fact{})
		case 'L':
			text += " loose sub " + name
			l = append(l, api.Fact{})
		case '(':
			text += " { ("
		case '|':
			text += " ) or ("
		case ')':
			text += " ) }"
		default:
			f, ok := factOf(letter)
			if !ok {
				t.Fatalf("%q in %s", letter, form)
			}
			text += " step " + name + " undo u ;"
			l = append(l, f)
		}
	}
	return made(t, text+" ) }"), l
}

func made(t testing.TB, text string) api.Plan {
	t.Helper()
	g, at, e := syntax.Read(text)
	if e != api.OK {
		t.Fatal(text, at, int(e))
	}
	p, e := plan.Make(g)
	if e != api.OK {
		t.Fatal(text, int(e))
	}
	return p
}

// statuses tells the statuses that a text of letters says: Idle, Running, Done, Failed, Undoing, uNdone.
func statuses(text string) []api.Status {
	var l []api.Status
	for i := range text {
		l = append(l, api.Status(strings.IndexByte("IRDFUN", text[i])))
	}
	return l
}

// The second reckoning: a saga is a tree, and each word of the chapter a question to one of its nodes, which asks those below it, or the one above.

type node struct {
	number int
	sub    bool
	vital  bool
	fact   api.Fact
	bodies [][]*node
	up     *node
	alt    int
}

// tree tells the nodes of a plan's saga, by their numbers.
func tree(t testing.TB, p api.Plan, l []api.Fact) []*node {
	t.Helper()
	g, e := plan.Back(p)
	if e != api.OK {
		t.Fatal(int(e))
	}
	all := []*node{{sub: true, vital: true}}
	var grow func(n *node, bodies []api.Body)
	grow = func(n *node, bodies []api.Body) {
		n.bodies = make([][]*node, len(bodies))
		for alt, b := range bodies {
			for _, x := range b.Nodes {
				kid := &node{number: len(all), sub: x.Sub, vital: x.Vital, fact: l[len(all)], up: n, alt: alt}
				all = append(all, kid)
				n.bodies[alt] = append(n.bodies[alt], kid)
				grow(kid, x.Alts)
			}
		}
	}
	grow(all[0], g.Alts)
	return all
}

func (n *node) kids() []*node { return slices.Concat(n.bodies...) }

func isAll(l []*node, is func(n *node) bool) bool {
	return !slices.ContainsFunc(l, func(n *node) bool { return !is(n) })
}

func (n *node) touched() bool {
	return n.fact.Run != 0 || slices.ContainsFunc(n.kids(), (*node).touched)
}

func (n *node) clean() bool {
	if n.sub {
		return isAll(n.kids(), (*node).clean)
	}
	return n.fact.Run != 1 && (n.fact.Run != 2 || n.fact.Undone)
}

func (n *node) falls(alt int) bool {
	return slices.ContainsFunc(n.bodies[alt], func(k *node) bool { return k.fact.Run == 3 || k.sub && k.vital && k.spent() })
}

func (n *node) spent() bool {
	if !n.sub || !n.clean() {
		return false
	}
	falling := 0
	for alt := range n.bodies {
		if n.falls(alt) {
			falling++
		}
	}
	return falling == len(n.bodies)
}

func (n *node) body() int {
	for alt := range n.bodies {
		if !n.falls(alt) || !isAll(n.bodies[alt], (*node).clean) {
			return alt
		}
	}
	return len(n.bodies) - 1
}

func (n *node) done() bool {
	if !n.sub {
		return n.fact == api.Fact{Run: 2}
	}
	return !n.spent() && isAll(n.bodies[n.body()], func(k *node) bool { return k.done() || k.sub && !k.vital && k.spent() })
}

func (n *node) halted() bool {
	return n.up != nil && (n.up.falls(n.alt) || n.up.halted())
}

func (n *node) status() api.Status {
	if !n.sub {
		if n.fact.Run != 2 {
			return []api.Status{api.Idle, api.Running, 0, api.Failed}[n.fact.Run]
		}
		if n.done() {
			return api.Done
		}
		if n.fact.Undone {
			return api.Undone
		}
		return api.Undoing
	}
	for _, c := range []struct {
		is func() bool
		s  api.Status
	}{
		{func() bool { return !n.touched() }, api.Idle},
		{n.done, api.Done},
		{n.spent, api.Failed},
		{func() bool { return !n.halted() }, api.Running},
		{n.clean, api.Undone},
	} {
		if c.is() {
			return c.s
		}
	}
	return api.Undoing
}

// told is what calls answer: those of the package, of a plan and facts, or those of a board.
type told struct {
	all     func() []api.Status
	verdict func() api.Status
	at      func(s int) int
	falling func(s, alt int) bool
	clean   func(i int) bool
}

func ofBoard(b *Board) told { return told{b.All, b.Verdict, b.At, b.Falling, b.Clean} }

func ofPackage(p api.Plan, l []api.Fact) told {
	return told{
		func() []api.Status { s, _ := All(p, l); return s },
		func() api.Status { return Verdict(p, l) },
		func(s int) int { return At(p, l, s) },
		func(s, alt int) bool { return Falling(p, l, s, alt) },
		func(i int) bool { return Clean(p, l, i) },
	}
}

func others(n int) []int { return []int{least, -64, -2, -1, n, n + 1, 64, 65, most} }

// hold holds all calls against the second reckoning.
func (c told) hold(t *testing.T, all []*node) {
	t.Helper()
	got := c.all()
	if len(got) != len(all) {
		t.Fatalf("%d items, want %d", len(got), len(all))
	}
	for i, n := range all {
		if got[i] != n.status() || c.clean(i) != n.clean() {
			t.Fatalf("item %d: status %d, clean %v; want %d, %v", i, got[i], c.clean(i), n.status(), n.clean())
		}
		at := -1
		if n.sub {
			at = n.body()
		}
		if c.at(i) != at {
			t.Fatalf("item %d: at %d, want %d", i, c.at(i), at)
		}
		for alt := -1; alt < 6; alt++ {
			want := alt >= 0 && alt < len(n.bodies) && (n.falls(alt) || n.halted())
			if c.falling(i, alt) != want {
				t.Fatalf("item %d, body %d: falling %v, want %v", i, alt, !want, want)
			}
		}
	}
	want := all[0].status()
	if want == api.Idle {
		want = api.Running
	}
	if v := c.verdict(); v != want {
		t.Fatalf("verdict %d, want %d", v, want)
	}
}

// holdOthers holds that there are no items and bodies but those of the plan.
func (c told) holdOthers(t *testing.T, all []*node) {
	t.Helper()
	for _, i := range others(len(all)) {
		if i >= 0 && i < len(all) {
			continue
		}
		if c.at(i) != -1 || c.clean(i) || c.falling(i, 0) || c.falling(i, -1) {
			t.Fatalf("item %d: at %d, clean %v, falling %v", i, c.at(i), c.clean(i), c.falling(i, 0))
		}
	}
	for _, n := range all {
		for _, alt := range others(len(n.bodies)) {
			if c.falling(n.number, alt) {
				t.Fatalf("item %d falls in its body %d", n.number, alt)
			}
		}
	}
}

// holdZero holds that all answers are zero values.
func (c told) holdZero(t *testing.T) {
	t.Helper()
	if s, v := c.all(), c.verdict(); len(s) != 0 || v != 0 {
		t.Fatal(s, int(v))
	}
	for _, i := range append(others(3), 0, 1, 2) {
		if c.at(i) != 0 || c.clean(i) {
			t.Fatal(i, c.at(i), c.clean(i))
		}
		for _, alt := range append(others(3), 0, 1, 2) {
			if c.falling(i, alt) {
				t.Fatal(i, alt)
			}
		}
	}
}

// holdSure holds P14.4, P14.5 and P14.6 of what is told.
func (c told) holdSure(t *testing.T, p api.Plan, l []api.Fact, all []*node) {
	t.Helper()
	got := c.all()
	untouched := true
	for i, x := range p.Items {
		untouched = untouched && l[i].Run == api.RunIdle
		if !x.Sub {
			continue
		}
		within := inside(all[i])
		hasRun := slices.ContainsFunc(within, func(k int) bool { return l[k].Run > api.RunIdle })
		if got[i] == api.Done && !hasRun {
			t.Fatalf("%d is done, and nothing in it began", i)
		}
		if got[i] != api.Failed {
			continue
		}
		for _, k := range append(within, i) {
			if !c.clean(k) {
				t.Fatalf("%d failed, and %d is not clean", i, k)
			}
		}
		if i > 0 && x.Vital && !c.falling(x.In, x.Alt) {
			t.Fatalf("%d is vital and failed, and its body does not fall", i)
		}
		for alt := range x.Alts {
			if !c.falling(i, alt) {
				t.Fatalf("%d failed, and its body %d does not fall", i, alt)
			}
		}
	}
	isIdle := !slices.ContainsFunc(got, func(s api.Status) bool { return s != api.Idle })
	if isIdle != untouched || untouched && c.verdict() != api.Running {
		t.Fatal(got, untouched, int(c.verdict()))
	}
}

// inside are all items that stand in one.
func inside(n *node) []int {
	var l []int
	for _, k := range n.kids() {
		l = append(append(l, k.number), inside(k)...)
	}
	return l
}

// see tells a board that holds with the second reckoning.
func see(t *testing.T, p api.Plan, l []api.Fact) *Board {
	t.Helper()
	b, e := See(p, l)
	if e != api.OK || b == nil {
		t.Fatalf("%v: %v, %d", l, b, int(e))
	}
	all, c := tree(t, p, l), ofBoard(b)
	c.hold(t, all)
	c.holdOthers(t, all)
	c.holdSure(t, p, l, all)
	return b
}

// ask holds the package's calls against the second reckoning.
func ask(t *testing.T, p api.Plan, l []api.Fact) {
	t.Helper()
	if _, e := All(p, l); e != api.OK {
		t.Fatalf("%v: %d", l, int(e))
	}
	all, c := tree(t, p, l), ofPackage(p, l)
	c.hold(t, all)
	c.holdOthers(t, all)
	c.holdSure(t, p, l, all)
}

// refuse holds that facts are refused.
func refuse(t *testing.T, p api.Plan, l []api.Fact) {
	t.Helper()
	if s, e := All(p, l); len(s) != 0 || e != api.ErrArg {
		t.Fatalf("%v: %v, %d", l, s, int(e))
	}
	b, e := See(p, l)
	if b != nil || e != api.ErrArg {
		t.Fatalf("%v: %v, %d", l, b, int(e))
	}
	ofPackage(p, l).holdZero(t)
	ofBoard(b).holdZero(t)
}

// fill puts letters' facts to a plan's steps, one behind the other.
func fill(p api.Plan, text string) []api.Fact {
	l := make([]api.Fact, len(p.Items))
	for i, x := range p.Items {
		if !x.Sub {
			l[i], _ = factOf(rune(text[0]))
			text = text[1:]
		}
	}
	return l
}

func countSteps(p api.Plan) int {
	n := 0
	for _, x := range p.Items {
		if !x.Sub {
			n++
		}
	}
	return n
}

// allTexts tells all texts of so many of some letters.
func allTexts(n int, of string) func(yield func(s string) bool) {
	return func(yield func(s string) bool) {
		if n == 0 {
			yield("")
			return
		}
		for begin := range allTexts(n-1, of) {
			for i := range of {
				if !yield(begin + of[i:i+1]) {
					return
				}
			}
		}
	}
}

// anyText picks so many of some letters.
func anyText(r *rand.Rand, n int, of string) string {
	var s strings.Builder
	for range n {
		s.WriteByte(of[r.Intn(len(of))])
	}
	return s.String()
}

// maker makes sagas that may be run, of so many nodes at most.
type maker struct {
	r    *rand.Rand
	left int
	made int
}

func anyPlan(t *testing.T, r *rand.Rand, count int) api.Plan {
	t.Helper()
	m := &maker{r: r, left: count}
	return made(t, "saga t"+m.bodies(1))
}

func (m *maker) bodies(deep int) string {
	text := " {"
	for alt := range 1 + m.r.Intn(4) {
		if alt > 0 && m.left == 0 {
			break
		}
		if alt > 0 {
			text += " or"
		}
		text += " ("
		names := []string{}
		for width := range 1 + m.r.Intn(5) {
			// A body has one node at least: the first one of a sub-saga's first body was taken into account with the sub-saga.
			if width+alt > 0 || deep == 1 {
				if m.left == 0 {
					break
				}
				m.left--
			}
			text += m.node(deep, &names)
		}
		text += " )"
	}
	return text + " }"
}

func (m *maker) node(deep int, names *[]string) string {
	m.made++
	name := "n" + strconv.Itoa(m.made)
	after := ""
	if len(*names) > 0 && m.r.Intn(2) == 0 {
		after = " after " + (*names)[m.r.Intn(len(*names))]
	}
	*names = append(*names, name)
	if deep == api.MaxDepth || m.left == 0 || m.r.Intn(5) < 2 {
		return " step " + name + " undo u" + after + " ;"
	}
	m.left--
	kind := " vital"
	if m.r.Intn(2) == 0 {
		kind = " loose"
	}
	return kind + " sub " + name + after + m.bodies(deep+1)
}
