package task

import (
	"math"
	"math/rand"
	"slices"
	"strconv"
	"strings"
	"testing"

	"argosy/api"
	"argosy/plan"
	"argosy/syntax"
)

const (
	least = math.MinInt
	most  = math.MaxInt
)

// A form is a saga and what is known of its steps in one text, of pieces between blanks: a step is a letter, its name, and a mark that says its fact; Vs is a vital sub-saga s, Ls one that is not; ( | ) stand around bodies; and behind < stand the names on which a node leans, with commas between.

// factOf tells the fact that a mark says: idle, begun, ok, failed; so many tries to undo it failed, and none is on its way; the first, second, third or fourth one is on its way; it is undone by one of these.
func factOf(mark byte) (api.Fact, bool) {
	switch {
	case mark >= '1' && mark <= '3':
		n := int(mark - '0')
		return api.Fact{Run: api.RunOk, Tries: n, Slips: n}, true
	case mark >= 'a' && mark <= 'd':
		n := int(mark - 'a')
		return api.Fact{Run: api.RunOk, Tries: n + 1, Slips: n}, true
	case mark >= 'w' && mark <= 'z':
		n := int(mark - 'w')
		return api.Fact{Run: api.RunOk, Tries: n + 1, Slips: n, Undone: true}, true
	}
	run := strings.IndexByte(".>+-", mark)
	return api.Fact{Run: api.Run(run)}, run >= 0
}

// marks are all that say facts; unlike one of each that stands otherwise.
const (
	marks  = ".>+-123abcdwxyz"
	unlike = ".>+-1aw"
)

// formed tells a form's plan, and its facts.
func formed(t testing.TB, form string) (api.Plan, []api.Fact) {
	t.Helper()
	text, l := "saga t { (", []api.Fact{{}}
	for _, piece := range strings.Fields(form) {
		head, on, leans := strings.Cut(piece, "<")
		after := ""
		if leans {
			after = " after " + strings.ReplaceAll(on, ",", " , ")
		}
		switch head[0] {
		case '(':
			text += " { ("
		case '|':
			text += " ) or ("
		case ')':
			text += " ) }"
		case 'V':
			text += " vital sub " + head[1:] + after
			l = append(l, api.Fact{})
		case 'L':
			text += " loose sub " + head[1:] + after
			l = append(l, api.Fact{})
		default:
			f, ok := factOf(head[len(head)-1])
			if !ok {
				t.Fatalf("%s in %s", piece, form)
			}
			text += " step " + head[:len(head)-1] + " undo u" + after + " ;"
			l = append(l, f)
		}
	}
	return made(t, text+" ) }"), l
}

func made(t testing.TB, text string) api.Plan {
	t.Helper()
	g, at, e := syntax.Read(text)
	if e != api.OK {
		t.Fatal(text, at, int(e))
	}
	p, e := plan.Make(g)
	if e != api.OK {
		t.Fatal(text, int(e))
	}
	return p
}

// text tells keys by their steps' names, those of undoings with their tries.
func text(p api.Plan, l []api.Key) string {
	var names []string
	for _, k := range l {
		name := p.Items[k.Item].Name
		if k.Undo || k.Try != 0 {
			name += "~" + strconv.Itoa(k.Try)
		}
		names = append(names, name)
	}
	return strings.Join(names, " ")
}

// key tells the key that a name says, as text tells it.
func key(t testing.TB, p api.Plan, said string) api.Key {
	t.Helper()
	name, try, undo := strings.Cut(said, "~")
	i := slices.IndexFunc(p.Items, func(x api.Item) bool { return x.Name == name })
	if i < 0 {
		t.Fatal(said)
	}
	k := api.Key{Item: i, Undo: undo}
	if undo {
		k.Try, _ = strconv.Atoi(try)
	}
	return k
}

// The second reckoning: a saga is a tree, and each word of the chapters a question to one of its nodes, which asks those below it, beside it, or above.

type node struct {
	number int
	sub    bool
	vital  bool
	fact   api.Fact
	bodies [][]*node
	up     *node
	alt    int
	leans  []*node
}

// tree tells the nodes of a plan's saga, by their numbers.
func tree(t testing.TB, p api.Plan, l []api.Fact) []*node {
	t.Helper()
	g, e := plan.Back(p)
	if e != api.OK {
		t.Fatal(int(e))
	}
	all := []*node{{sub: true, vital: true}}
	named, after := map[string]*node{}, map[*node][]string{}
	var grow func(n *node, bodies []api.Body)
	grow = func(n *node, bodies []api.Body) {
		n.bodies = make([][]*node, len(bodies))
		for alt, b := range bodies {
			for _, x := range b.Nodes {
				kid := &node{number: len(all), sub: x.Sub, vital: x.Vital, fact: l[len(all)], up: n, alt: alt}
				all = append(all, kid)
				named[x.Name], after[kid] = kid, x.After
				n.bodies[alt] = append(n.bodies[alt], kid)
				grow(kid, x.Alts)
			}
		}
	}
	grow(all[0], g.Alts)
	for n, names := range after {
		for _, name := range names {
			n.leans = append(n.leans, named[name])
		}
	}
	return all
}

func (n *node) kids() []*node { return slices.Concat(n.bodies...) }

func isAll(l []*node, is func(n *node) bool) bool {
	return !slices.ContainsFunc(l, func(n *node) bool { return !is(n) })
}

func (n *node) clean() bool {
	if n.sub {
		return isAll(n.kids(), (*node).clean)
	}
	return n.fact.Run != 1 && (n.fact.Run != 2 || n.fact.Undone)
}

func (n *node) falls(alt int) bool {
	return slices.ContainsFunc(n.bodies[alt], func(k *node) bool { return k.fact.Run == 3 || k.vital && k.spent() })
}

func (n *node) spent() bool {
	if !n.sub || !n.clean() {
		return false
	}
	for alt := range n.bodies {
		if !n.falls(alt) {
			return false
		}
	}
	return true
}

func (n *node) body() int {
	for alt := range n.bodies {
		if !n.falls(alt) || !isAll(n.bodies[alt], (*node).clean) {
			return alt
		}
	}
	return len(n.bodies) - 1
}

func (n *node) spared() bool { return n.sub && !n.vital && n.spent() }

func (n *node) done() bool {
	if !n.sub {
		return n.fact == api.Fact{Run: 2}
	}
	return !n.spent() && isAll(n.bodies[n.body()], func(k *node) bool { return k.done() || k.spared() })
}

func (n *node) halted() bool { return n.up != nil && n.inFalling() }

// inFalling tells whether the body in which a node stands falls, or one around it.
func (n *node) inFalling() bool { return n.up.falls(n.alt) || n.up.halted() }

func (n *node) runs() bool {
	return !n.done() && !n.spent() && (n.up == nil || n.reached())
}

func (n *node) reached() bool {
	return isAll(n.leans, func(k *node) bool { return k.done() || k.spared() }) && !n.inFalling() && n.up.body() == n.alt && n.up.runs()
}

// over tells whether a chain of leanings leads from a node to another one.
func (n *node) over(other *node) bool {
	return slices.ContainsFunc(n.leans, func(k *node) bool { return k == other || k.over(other) })
}

// bare tells whether all that lean on a node are clean, and all that lean on what is around it.
func (n *node) bare() bool {
	if n.up == nil {
		return true
	}
	return isAll(n.up.kids(), func(k *node) bool { return !k.over(n) || k.clean() }) && n.up.bare()
}

func (n *node) mayBegin() bool { return !n.sub && n.fact.Run == 0 && n.reached() }

func (n *node) mayBeUndone() bool {
	return n.fact.Run == 2 && !n.fact.Undone && n.fact.Tries == n.fact.Slips && n.inFalling() && n.bare()
}

func (n *node) verdict() api.Status {
	switch {
	case n.done():
		return api.Done
	case n.spent():
		return api.Failed
	}
	return api.Running
}

// expectMay tells the keys that may begin.
func expectMay(all []*node) []api.Key {
	var l []api.Key
	for _, n := range all {
		if n.mayBegin() {
			l = append(l, api.Key{Item: n.number})
		}
		if n.mayBeUndone() {
			l = append(l, api.Key{Item: n.number, Undo: true, Try: n.fact.Slips})
		}
	}
	return l
}

// expectOpen tells the keys that are open.
func expectOpen(l []api.Fact) []api.Key {
	var keys []api.Key
	for i, f := range l {
		if f.Run == 1 {
			keys = append(keys, api.Key{Item: i})
		}
		if f.Tries > f.Slips && !f.Undone {
			keys = append(keys, api.Key{Item: i, Undo: true, Try: f.Slips})
		}
	}
	return keys
}

// begun tells the facts behind a key that begins, ended behind one that ends.
func begun(l []api.Fact, k api.Key) []api.Fact {
	then := slices.Clone(l)
	if k.Undo {
		then[k.Item].Tries++
	} else {
		then[k.Item].Run = 1
	}
	return then
}

func ended(l []api.Fact, k api.Key, ok bool) []api.Fact {
	then := slices.Clone(l)
	switch {
	case k.Undo && ok:
		then[k.Item].Undone = true
	case k.Undo:
		then[k.Item].Slips++
	case ok:
		then[k.Item].Run = 2
	default:
		then[k.Item].Run = 3
	}
	return then
}

// keysOf are all keys of a plan's items that may be thought of, and some of what is no item.
func keysOf(p api.Plan) []api.Key {
	var l []api.Key
	add := func(items, tries []int) {
		for _, i := range items {
			for _, try := range tries {
				l = append(l, api.Key{Item: i, Try: try}, api.Key{Item: i, Undo: true, Try: try})
			}
		}
	}
	n := len(p.Items)
	for i := range n {
		add([]int{i}, []int{-1, 0, 1, 2, 3, 4})
	}
	add([]int{0, 1, n - 1}, []int{least, most, 256, 1 << 32})
	add([]int{least, -64, -1, n, n + 1, 64, 65, 257, 1<<32 + 1, most}, []int{-1, 0, 3, 4})
	return l
}

// hold holds May, and Is of the keys that it tells, against the second reckoning; and P15.6.
func hold(t *testing.T, p api.Plan, l []api.Fact) []api.Key {
	t.Helper()
	all := tree(t, p, l)
	may, want := May(p, l), expectMay(all)
	if !slices.Equal(may, want) {
		t.Fatalf("%v: %v, want %v", l, may, want)
	}
	for at, k := range may {
		if at > 0 && may[at-1].Item >= k.Item {
			t.Fatalf("%v: %v do not rise", l, may)
		}
		if k.Undo {
			holdBare(t, all, all[k.Item])
		} else if slices.ContainsFunc(all[k.Item].leans, (*node).mayBeUndone) {
			t.Fatalf("%v: %v leans on what may be undone", l, k)
		}
	}
	return may
}

// holdBare holds that all is clean to which a chain leads from a node, or from one around it.
func holdBare(t *testing.T, all []*node, n *node) {
	t.Helper()
	for around := n; around != nil; around = around.up {
		for _, k := range all {
			if k.over(around) && !k.clean() {
				t.Fatalf("%d may be undone, and %d is not clean", n.number, k.number)
			}
		}
	}
}

// holdKeys holds Is, Begin and End of all keys against the second reckoning.
func holdKeys(t *testing.T, p api.Plan, l []api.Fact) {
	t.Helper()
	may, open := expectMay(tree(t, p, l)), expectOpen(l)
	for _, k := range keysOf(p) {
		is := slices.Contains(may, k)
		if Is(p, l, k) != is {
			t.Fatalf("%v, %v: Is %v", l, k, !is)
		}
		var want []api.Fact
		fault := api.ErrState
		if is {
			want, fault = begun(l, k), api.OK
		}
		if then, e := Begin(p, l, k); e != fault || !slices.Equal(then, want) {
			t.Fatalf("%v, Begin %v: %v, %d; want %v, %d", l, k, then, int(e), want, int(fault))
		}
		for _, ok := range []bool{true, false} {
			want, fault = nil, api.ErrState
			isLast := k.Undo && k.Try == 3 && !ok
			if slices.Contains(open, k) && !isLast {
				want, fault = ended(l, k, ok), api.OK
			}
			if then, e := End(p, l, k, ok); e != fault || !slices.Equal(then, want) {
				t.Fatalf("%v, End %v, %v: %v, %d; want %v, %d", l, k, ok, then, int(e), want, int(fault))
			}
		}
	}
}

// holdNext holds Next of two lists of facts against May of both.
func holdNext(t *testing.T, p api.Plan, l, m []api.Fact) {
	t.Helper()
	had, has := expectMay(tree(t, p, l)), expectMay(tree(t, p, m))
	var want []api.Key
	for _, k := range has {
		if !slices.Contains(had, k) {
			want = append(want, k)
		}
	}
	if got := Next(p, l, m); !slices.Equal(got, want) {
		t.Fatalf("%v, %v: Next %v, want %v", l, m, got, want)
	}
}

// refuse holds that facts are refused, whatever is asked.
func refuse(t *testing.T, p api.Plan, l []api.Fact) {
	t.Helper()
	if may := May(p, l); len(may) != 0 {
		t.Fatalf("%v: %v", l, may)
	}
	for _, k := range []api.Key{{}, {Item: 1}, {Item: 2}, {Item: 3}, {Item: 1, Undo: true}, {Item: 3, Undo: true, Try: 3}, {Item: -1}, {Item: most, Undo: true, Try: least}} {
		if Is(p, l, k) {
			t.Fatalf("%v, %v: Is", l, k)
		}
		if then, e := Begin(p, l, k); len(then) != 0 || e != api.ErrArg {
			t.Fatalf("%v, Begin %v: %v, %d", l, k, then, int(e))
		}
		for _, ok := range []bool{true, false} {
			if then, e := End(p, l, k, ok); len(then) != 0 || e != api.ErrArg {
				t.Fatalf("%v, End %v: %v, %d", l, k, then, int(e))
			}
		}
	}
	if next := Next(p, l, l); len(next) != 0 {
		t.Fatalf("%v: Next %v", l, next)
	}
}

// fill puts marks' facts to a plan's steps, one behind the other.
func fill(p api.Plan, text string) []api.Fact {
	l := make([]api.Fact, len(p.Items))
	for i, x := range p.Items {
		if !x.Sub {
			l[i], _ = factOf(text[0])
			text = text[1:]
		}
	}
	return l
}

func countSteps(p api.Plan) int {
	n := 0
	for _, x := range p.Items {
		if !x.Sub {
			n++
		}
	}
	return n
}

// allTexts tells all texts of so many of some marks.
func allTexts(n int, of string) func(yield func(s string) bool) {
	return func(yield func(s string) bool) {
		if n == 0 {
			yield("")
			return
		}
		for begin := range allTexts(n-1, of) {
			for i := range of {
				if !yield(begin + of[i:i+1]) {
					return
				}
			}
		}
	}
}

// anyText picks so many of some marks.
func anyText(r *rand.Rand, n int, of string) string {
	var s strings.Builder
	for range n {
		s.WriteByte(of[r.Intn(len(of))])
	}
	return s.String()
}

// maker makes sagas that may be run, of so many nodes at most.
type maker struct {
	r    *rand.Rand
	left int
	made int
}

func anyPlan(t *testing.T, r *rand.Rand, count int) api.Plan {
	t.Helper()
	m := &maker{r: r, left: count}
	return made(t, "saga t"+m.bodies(1))
}

func (m *maker) bodies(deep int) string {
	text := " {"
	for alt := range 1 + m.r.Intn(3) {
		if alt > 0 && m.left == 0 {
			break
		}
		if alt > 0 {
			text += " or"
		}
		text += " ("
		names := []string{}
		for width := range 1 + m.r.Intn(5) {
			// A body has one node at least: the first one of a sub-saga's first body was taken into account with the sub-saga.
			if width+alt > 0 || deep == 1 {
				if m.left == 0 {
					break
				}
				m.left--
			}
			text += m.node(deep, &names)
		}
		text += " )"
	}
	return text + " }"
}

func (m *maker) node(deep int, names *[]string) string {
	m.made++
	name := "n" + strconv.Itoa(m.made)
	var on []string
	for _, other := range *names {
		if m.r.Intn(3) == 0 {
			on = append(on, other)
		}
	}
	after := ""
	if len(on) > 0 {
		m.r.Shuffle(len(on), func(i, k int) { on[i], on[k] = on[k], on[i] })
		after = " after " + strings.Join(on, " , ")
	}
	*names = append(*names, name)
	if deep == api.MaxDepth || m.left == 0 || m.r.Intn(5) < 2 {
		return " step " + name + " undo u" + after + " ;"
	}
	m.left--
	kind := " vital"
	if m.r.Intn(2) == 0 {
		kind = " loose"
	}
	return kind + " sub " + name + after + m.bodies(deep+1)
}
