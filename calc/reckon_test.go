package calc

import (
	"math/rand"
	"slices"
	"strconv"
	"strings"
	"testing"

	"argosy/api"
	"argosy/plan"
	"argosy/syntax"
	"argosy/trace"
)

// The second reckoning: a saga is a tree, that is read off a form; what is known is a text of one mark an item; and each word of the chapters is a question to a node.

// A form is a saga's bodies in one text, of pieces between blanks: a step is its name; Vs is a vital sub-saga s, Ls one that is not; ( | ) stand around bodies; and behind < stand the names on which a node leans, with commas between.

// Marks: . is a step that is idle, > begun, - failed, + done; 1 2 3 say how many tries to undo it failed, if none is on its way; a b c d that the first, second, third or fourth one is; x is undone. A saga is @.

type node struct {
	number int
	sub    bool
	vital  bool
	bodies [][]*node
	up     *node
	alt    int
	leans  []*node
}

// saga is a form's plan and its nodes, by their numbers.
type saga struct {
	form  string
	plan  api.Plan
	nodes []*node
	idle  string
}

func sagaOf(t testing.TB, form string) saga {
	t.Helper()
	root := &node{sub: true, vital: true, bodies: [][]*node{nil}}
	g, named, text, in := saga{form: form, nodes: []*node{root}, idle: "@"}, map[string]*node{}, "saga t { (", root
	for _, piece := range strings.Fields(form) {
		head, on, _ := strings.Cut(piece, "<")
		after := ""
		if on != "" {
			after = " after " + strings.ReplaceAll(on, ",", " , ")
		}
		switch head[0] {
		case '(':
			text, in = text+" { (", g.nodes[len(g.nodes)-1]
			in.bodies = append(in.bodies, nil)
			continue
		case '|':
			text += " ) or ("
			in.bodies = append(in.bodies, nil)
			continue
		case ')':
			text, in = text+" ) }", in.up
			continue
		case 'V', 'L':
			kind := map[byte]string{'V': " vital sub ", 'L': " loose sub "}[head[0]]
			text += kind + head[1:] + after
		default:
			text += " step " + head + " undo u" + after + " ;"
		}
		sub := head[0] == 'V' || head[0] == 'L'
		n := &node{number: len(g.nodes), sub: sub, vital: head[0] == 'V', up: in, alt: len(in.bodies) - 1}
		in.bodies[n.alt] = append(in.bodies[n.alt], n)
		g.nodes = append(g.nodes, n)
		name := strings.TrimLeft(head, "VL")
		if named[name] = n; len(name) == 1 && int(name[0]) != 'a'+n.number-1 {
			t.Fatal(form, "names", name, "out of order")
		}
		for _, name := range strings.FieldsFunc(on, func(r rune) bool { return r == ',' }) {
			n.leans = append(n.leans, named[name])
		}
		g.idle += map[bool]string{true: "@", false: "."}[sub]
	}
	g.plan = made(t, text+" ) }")
	return g
}

func made(t testing.TB, text string) api.Plan {
	t.Helper()
	g, at, e := syntax.Read(text)
	if e != api.OK {
		t.Fatal(text, at, int(e))
	}
	p, e := plan.Make(g)
	if e != api.OK {
		t.Fatal(text, int(e))
	}
	return p
}

func (n *node) kids() []*node { return slices.Concat(n.bodies...) }

func isAll(l []*node, is func(n *node) bool) bool {
	return !slices.ContainsFunc(l, func(n *node) bool { return !is(n) })
}

func (n *node) clean(m string) bool {
	if n.sub {
		return isAll(n.kids(), func(k *node) bool { return k.clean(m) })
	}
	return strings.IndexByte(".-x", m[n.number]) >= 0
}

func (n *node) falls(m string, alt int) bool {
	return slices.ContainsFunc(n.bodies[alt], func(k *node) bool { return m[k.number] == '-' || k.vital && k.spent(m) })
}

func (n *node) spent(m string) bool {
	for alt := range n.bodies {
		if !n.falls(m, alt) {
			return false
		}
	}
	return n.sub && n.clean(m)
}

func (n *node) body(m string) int {
	for alt, b := range n.bodies {
		if !n.falls(m, alt) || !isAll(b, func(k *node) bool { return k.clean(m) }) {
			return alt
		}
	}
	return len(n.bodies) - 1
}

func (n *node) spared(m string) bool { return !n.vital && n.spent(m) }

func (n *node) done(m string) bool {
	if !n.sub {
		return m[n.number] == '+'
	}
	return !n.spent(m) && isAll(n.bodies[n.body(m)], func(k *node) bool { return k.done(m) || k.spared(m) })
}

// halted tells whether the body in which a node stands falls, or one around it.
func (n *node) halted(m string) bool {
	return n.up != nil && (n.up.falls(m, n.alt) || n.up.halted(m))
}

func (n *node) reached(m string) bool {
	goOn := isAll(n.leans, func(k *node) bool { return k.done(m) || k.spared(m) })
	return goOn && !n.halted(m) && n.up.body(m) == n.alt && n.up.runs(m)
}

func (n *node) runs(m string) bool {
	return !n.done(m) && !n.spent(m) && (n.up == nil || n.reached(m))
}

// over tells whether a chain of leanings leads from a node to another one.
func (n *node) over(other *node) bool {
	return slices.ContainsFunc(n.leans, func(k *node) bool { return k == other || k.over(other) })
}

// bare tells whether all that lean on a node are clean, and all that lean on what is around it.
func (n *node) bare(m string) bool {
	return n.up == nil || n.up.bare(m) && isAll(n.up.kids(), func(k *node) bool { return !k.over(n) || k.clean(m) })
}

func (n *node) may(m string) bool {
	switch m[n.number] {
	case '.':
		return n.reached(m)
	case '+', '1', '2', '3':
		return n.halted(m) && n.bare(m)
	}
	return false
}

func (n *node) verdict(m string) api.Status {
	switch {
	case n.done(m):
		return api.Done
	case n.spent(m):
		return api.Failed
	}
	return api.Running
}

// may are the items that may begin, rising.
func (g saga) may(m string) []int {
	var l []int
	for _, n := range g.nodes {
		if n.may(m) {
			l = append(l, n.number)
		}
	}
	return l
}

func with(m string, i int, mark byte) string { return m[:i] + string(mark) + m[i+1:] }

// begun tells the marks when an item begins that may.
func begun(m string, i int) string {
	return with(m, i, map[byte]byte{'.': '>', '+': 'a', '1': 'b', '2': 'c', '3': 'd'}[m[i]])
}

// said tells what a script says of an item: whether it fails, and how often undoing it does.
func said(s []byte, i int) (bool, int) {
	if i >= len(s) {
		return false, 0
	}
	return s[i]/4%2 == 1, int(s[i] % 4)
}

// ended tells the effect when an item that is open ends, and the marks then; false of one that is not.
func ended(s []byte, m string, i int) (api.Effect, string, bool) {
	fails, slips := said(s, i)
	try := int(m[i]) - 'a'
	switch {
	case m[i] == '>' && fails:
		return api.Effect{Key: api.Key{Item: i}}, with(m, i, '-'), true
	case m[i] == '>':
		return api.Effect{Key: api.Key{Item: i}, Ok: true}, with(m, i, '+'), true
	case m[i] < 'a' || m[i] > 'd':
		return api.Effect{}, m, false
	case try < slips:
		return api.Effect{Key: api.Key{Item: i, Undo: true, Try: try}}, with(m, i, byte('1'+try)), true
	}
	return api.Effect{Key: api.Key{Item: i, Undo: true, Try: try}, Ok: true}, with(m, i, 'x'), true
}

// keyNow tells the key of an item that may begin.
func keyNow(m string, i int) api.Key {
	if m[i] == '.' {
		return api.Key{Item: i}
	}
	return api.Key{Item: i, Undo: true, Try: strings.IndexByte("+123", m[i])}
}

// reckonAccept takes the words one by one.
func (g saga) reckonAccept(s []byte, l []api.Effect) (api.Status, int, api.Errno) {
	m := g.idle
	for at, x := range l {
		now := m
		for _, i := range g.may(m) {
			if slices.ContainsFunc(l[at:], func(y api.Effect) bool { return y.Key == keyNow(m, i) }) {
				now = begun(now, i)
			}
		}
		m = now
		if x.Key.Item < 0 || x.Key.Item >= len(m) {
			return 0, at, api.ErrState
		}
		y, then, ok := ended(s, m, x.Key.Item)
		if !ok || y != x {
			return 0, at, api.ErrState
		}
		m = then
	}
	return g.nodes[0].verdict(m), len(l), api.OK
}

// some tells whether a trace may come about, by beginning whatever may at any time, however long that is on its way.
func (g saga) some(s []byte, l []api.Effect) bool {
	type spot struct {
		marks string
		at    int
	}
	seen := map[spot]bool{}
	var from func(m string, at int) bool
	from = func(m string, at int) bool {
		if seen[spot{m, at}] {
			return false
		}
		seen[spot{m, at}] = true
		if at == len(l) {
			return true
		}
		if i := l[at].Key.Item; i >= 0 && i < len(m) {
			if y, then, ok := ended(s, m, i); ok && y == l[at] && from(then, at+1) {
				return true
			}
		}
		return slices.ContainsFunc(g.may(m), func(i int) bool { return from(begun(m, i), at) })
	}
	return from(g.idle, 0)
}

// reckonRun tells what is done, one key at a time, how many might have begun each time, and the marks then.
func (g saga) reckonRun(s []byte, picks []int) ([]api.Effect, []int, string) {
	var l []api.Effect
	var many []int
	for m := g.idle; ; {
		may := g.may(m)
		if len(may) == 0 {
			return l, many, m
		}
		pick := 0
		if len(l) < len(picks) {
			pick = picks[len(l)]
		}
		for pick = pick % len(may); pick < 0; {
			pick += len(may)
		}
		x, then, ok := ended(s, begun(m, may[pick]), may[pick])
		if !ok {
			panic("what began is not open")
		}
		l, many, m = append(l, x), append(many, len(may)), then
	}
}

// fate tells, by the script alone, whether a saga fails in the end.
func (n *node) fate(s []byte) bool {
	return !slices.ContainsFunc(n.bodies, func(b []*node) bool { return !fateOf(s, b) })
}

// fateOf tells whether a body falls in the end.
func fateOf(s []byte, b []*node) bool {
	return slices.ContainsFunc(b, func(k *node) bool {
		fails, _ := said(s, k.number)
		return !k.sub && fails || k.vital && k.fate(s)
	})
}

// left tells, by the script alone, which steps of a saga are done in the end, and not undone.
func (n *node) left(s []byte) []int {
	var l []int
	for _, b := range n.bodies {
		if fateOf(s, b) {
			continue
		}
		for _, k := range b {
			if !k.sub {
				l = append(l, k.number)
			}
			l = append(l, k.left(s)...)
		}
		break
	}
	return l
}

func (g saga) reckonEnds(s []byte) api.Status {
	if g.nodes[0].fate(s) {
		return api.Failed
	}
	return api.Done
}

// expectAccept holds Accept against the words, and tells how many effects came as they may.
func (g saga) expectAccept(t *testing.T, s []byte, l []api.Effect) int {
	t.Helper()
	v, n, e := Accept(g.plan, s, l)
	wantV, wantN, wantE := g.reckonAccept(s, l)
	if v != wantV || n != wantN || e != wantE {
		t.Fatalf("%s, script %v: Accept %s: %d, %d, %d; want %d, %d, %d", g.form, s, textOf(l), v, n, e, wantV, wantN, wantE)
	}
	return n
}

// expectRun holds Run, and what chapter 21 promises of it, against the words.
func (g saga) expectRun(t *testing.T, s []byte, picks []int) ([]api.Effect, []int) {
	t.Helper()
	l, v, e := Run(g.plan, s, picks)
	want, many, m := g.reckonRun(s, picks)
	if !slices.Equal(l, want) || v != g.nodes[0].verdict(m) || e != api.OK {
		t.Fatalf("%s, script %v: Run %v: %s, %d, %d; want %s", g.form, s, picks, textOf(l), v, e, textOf(want))
	}
	if ends := g.reckonEnds(s); v != ends {
		t.Fatalf("%s, script %v: Run %v: %d; want %d", g.form, s, picks, v, ends)
	}
	var left []int
	if v == api.Done {
		left = g.nodes[0].left(s)
		slices.Sort(left)
	}
	if !slices.Equal(trace.Left(l), left) {
		t.Fatalf("%s, script %v: Run %v: %s leaves %v; want %v", g.form, s, picks, textOf(l), trace.Left(l), left)
	}
	return l, many
}

// expectMayBe holds that a trace that Run told may be, and each beginning of it (P21.4).
func (g saga) expectMayBe(t *testing.T, s []byte, l []api.Effect) {
	t.Helper()
	for n := range len(l) + 1 {
		want := api.Running
		if n == len(l) {
			want = g.reckonEnds(s)
		}
		if v, many, e := Accept(g.plan, s, l[:n]); v != want || many != n || e != api.OK {
			t.Fatalf("%s, script %v: Accept %s: %d, %d, %d; want %d", g.form, s, textOf(l[:n]), v, many, e, want)
		}
	}
}

// choices goes through all ways of picking in which Run may go, of as many keys as might begin each time.
func (g saga) choices(s []byte, yield func(picks []int) bool) {
	for picks := []int{}; ; {
		l, many, _ := g.reckonRun(s, picks)
		for len(picks) < len(l) {
			picks = append(picks, 0)
		}
		if !yield(picks) {
			return
		}
		at := len(l) - 1
		for at >= 0 && picks[at]+1 == many[at] {
			at--
		}
		if at < 0 {
			return
		}
		picks = append(picks[:at:at], picks[at]+1)
	}
}

// forms are small sagas of all kinds.
var forms = []string{
	"a",
	"a b",
	"a b<a",
	"a | b",
	"a b c",
	"a b<a c",
	"a b<a c<b",
	"a b c<a,b",
	"a b | c",
	"Va ( b )",
	"La ( b )",
	"La ( b ) c",
	"La ( b ) c<a",
	"Va ( b ) c<a",
	"a Vb<a ( c | d )",
	"a Lb<a ( c | d )",
	"La ( b c ) d",
	"La ( Lb ( c ) d<b )",
	"Va ( Lb ( c | d ) ) | e",
	"La ( Vb ( c | d ) ) e<a",
}

// scripts goes through scripts of all bytes that are told, for each step of a saga.
func (g saga) scripts(of []byte, yield func(s []byte) bool) {
	var more func(s []byte) bool
	more = func(s []byte) bool {
		if len(s) == len(g.nodes) {
			return yield(slices.Clone(s))
		}
		if g.nodes[len(s)].sub {
			return more(append(s, 0))
		}
		for _, b := range of {
			if !more(append(s, b)) {
				return false
			}
		}
		return true
	}
	more(nil)
}

// P21.2 to P21.6: small sagas by all scripts, in all ways of picking.
func TestReckonRuns(t *testing.T) {
	runs := 0
	for _, form := range append(forms, "a Lb ( c d<c ) e<b", "Va ( b Lc ( d ) ) e | Vf ( g | h ) i<f") {
		g := sagaOf(t, form)
		of := []byte{0, 1, 2, 3, 4}
		if steps := strings.Count(g.idle, "."); steps > 3 {
			of = []byte{1, 4}
		} else if steps == 3 {
			of = []byte{0, 2, 4}
		}
		for s := range func(yield func(s []byte) bool) { g.scripts(of, yield) } {
			if ends := Ends(g.plan, s); ends != g.reckonEnds(s) {
				t.Fatalf("%s, script %v: Ends %d", form, s, ends)
			}
			for picks := range func(yield func(picks []int) bool) { g.choices(s, yield) } {
				l, _ := g.expectRun(t, s, picks)
				if runs++; runs%8 == 0 {
					g.expectMayBe(t, s, l)
				}
			}
		}
	}
	if runs < 1000 {
		t.Error(runs)
	}
}

// pieces are effects of all keys of a saga's steps: all that a script says, and some that it does not.
func (g saga) pieces(s []byte) []api.Effect {
	var l []api.Effect
	for i, n := range g.nodes {
		if n.sub {
			continue
		}
		fails, slips := said(s, i)
		l = append(l, api.Effect{Key: api.Key{Item: i}, Ok: !fails})
		for try := range slips + 1 {
			l = append(l, api.Effect{Key: api.Key{Item: i, Undo: true, Try: try}, Ok: try == slips})
		}
	}
	last := l[len(l)-1]
	return append(l, api.Effect{Key: last.Key, Ok: !last.Ok})
}

// P21.1: all short traces of small sagas: they may be as the words say, and just if they may come about at all.
func TestReckonTraces(t *testing.T) {
	in, out := 0, 0
	for _, c := range []struct {
		form, script string
		long         int
	}{
		{"a", "", 3}, {"a", "a3", 5}, {"a", "a-3", 4},
		{"a b", "a-", 5}, {"a b", "a- b1", 5}, {"a b", "", 4}, {"a b", "a- b-", 4},
		{"a b<a", "b-", 5}, {"a b<a", "", 4},
		{"a | b", "a-", 4}, {"a b | c", "b-", 5},
		{"a b<a c", "c-", 5}, {"a b c", "b-", 5}, {"a b c", "a- b-", 5},
		{"a Lb<a ( c )", "c-", 5}, {"La ( b ) c<a", "b-", 5}, {"La ( b c ) d", "b-", 5},
		{"Va ( b c ) d", "b-", 5}, {"a Vb<a ( c | d )", "c- d-", 5},
	} {
		g, s := sagaOf(t, c.form), scripted(c.script)
		all := g.pieces(s)
		var more func(l []api.Effect)
		more = func(l []api.Effect) {
			n := g.expectAccept(t, s, l)
			if ok := n == len(l); ok != g.some(s, l) {
				t.Fatalf("%s, %s: %s: %v", c.form, c.script, textOf(l), ok)
			}
			if n < len(l) {
				out++
			} else {
				in++
			}
			// What is still to come may matter of a trace that is refused.
			if len(l) == c.long || n+2 < len(l) {
				return
			}
			for _, x := range all {
				more(append(l, x))
			}
		}
		more(nil)
	}
	if in < 200 || out < 10000 {
		t.Error(in, out)
	}
}

// maker makes forms by chance.
type maker struct {
	r          *rand.Rand
	left, made int
}

func anyForm(r *rand.Rand, count int) string {
	m := &maker{r: r, left: count}
	return m.bodies(1)
}

func (m *maker) bodies(deep int) string {
	var bodies []string
	for alt := range 1 + m.r.Intn(3) {
		var nodes, names []string
		for width := range 1 + m.r.Intn(5) {
			// A body has one node at least: the first one of a sub-saga's first body was taken into account with the sub-saga.
			if width+alt > 0 || deep == 1 {
				if m.left == 0 {
					break
				}
				m.left--
			}
			nodes = append(nodes, m.node(deep, &names))
		}
		if len(nodes) > 0 {
			bodies = append(bodies, strings.Join(nodes, " "))
		}
	}
	return strings.Join(bodies, " | ")
}

func (m *maker) node(deep int, names *[]string) string {
	m.made++
	name := "n" + strconv.Itoa(m.made)
	var on []string
	for _, other := range *names {
		if m.r.Intn(3) == 0 {
			on = append(on, other)
		}
	}
	*names = append(*names, name)
	after := ""
	if len(on) > 0 {
		after = "<" + strings.Join(on, ",")
	}
	if deep == api.MaxDepth || m.left == 0 || m.r.Intn(5) < 2 {
		return name + after
	}
	m.left--
	kind := "V"
	if m.r.Intn(2) == 0 {
		kind = "L"
	}
	return kind + name + after + " ( " + m.bodies(deep+1) + " )"
}

// anyScript makes a script of which one in so many items fails.
func anyScript(r *rand.Rand, long, rare int) []byte {
	s := make([]byte, long)
	for i := range s {
		s[i] = byte(r.Intn(64))<<3 | byte(r.Intn(4))
		if r.Intn(rare) == 0 {
			s[i] |= 4
		}
	}
	return s
}

// anyRun goes as it chances, with some keys open at a time, and tells the effects.
func (g saga) anyRun(r *rand.Rand, s []byte) []api.Effect {
	var l []api.Effect
	for m := g.idle; ; {
		may := g.may(m)
		var open []int
		for i := range m {
			if _, _, ok := ended(s, m, i); ok {
				open = append(open, i)
			}
		}
		if len(may)+len(open) == 0 {
			return l
		}
		if n := r.Intn(len(may) + len(open)); n < len(may) {
			m = begun(m, may[n])
		} else {
			x, then, _ := ended(s, m, open[n-len(may)])
			l, m = append(l, x), then
		}
	}
}

// turned turns a trace in one or two places.
func turned(r *rand.Rand, l []api.Effect) []api.Effect {
	l = slices.Clone(l)
	for range 1 + r.Intn(2) {
		if len(l) == 0 {
			break
		}
		i, k := r.Intn(len(l)), r.Intn(len(l))
		switch r.Intn(7) {
		case 0:
			l = slices.Delete(l, i, i+1)
		case 1:
			l[i], l[k] = l[k], l[i]
		case 2:
			l = slices.Insert(l, i, l[k])
		case 3:
			l[i].Ok = !l[i].Ok
		case 4:
			l[i].Key.Try += r.Intn(3) - 1
		case 5:
			l[i].Key.Undo = !l[i].Key.Undo
		case 6:
			l[i].Key.Item += r.Intn(5) - 2
		}
	}
	return l
}

// P21.1 to P21.6: any sagas and scripts; what comes about, by whatever is on its way at a time, may be; and what was turned may be as the words say.
func TestReckonAny(t *testing.T) {
	r := rand.New(rand.NewSource(21))
	in, out, ends := 0, 0, map[api.Status]int{}
	for range 150 {
		g := sagaOf(t, anyForm(r, 1+r.Intn(30)))
		for _, rare := range []int{2, 3, 12} {
			s := anyScript(r, r.Intn(len(g.nodes)+3), rare)
			picks := make([]int, r.Intn(40))
			for i := range picks {
				picks[i] = int(r.Uint64())
			}
			l, _ := g.expectRun(t, s, picks)
			if r.Intn(8) == 0 {
				g.expectMayBe(t, s, l)
			}
			ends[g.reckonEnds(s)]++
			l = g.anyRun(r, s)
			if v, n, e := Accept(g.plan, s, l); v != g.reckonEnds(s) || n != len(l) || e != api.OK {
				t.Fatal(g.form, s, textOf(l), v, n, e)
			}
			for range 3 {
				if turn := turned(r, l); g.expectAccept(t, s, turn) == len(turn) {
					in++
				} else {
					out++
				}
			}
		}
	}
	if in < 100 || out < 500 || ends[api.Done] < 50 || ends[api.Failed] < 50 {
		t.Error(in, out, ends)
	}
}
