package cause

import (
	"fmt"
	"math/rand"
	"slices"
	"strconv"
	"strings"
	"testing"

	"argosy/api"
	"argosy/fact"
	"argosy/plan"
	"argosy/syntax"
	"argosy/task"
)

// The second reckoning: a saga is a tree, that is read off a form; causes are gathered from the trunk down, all steps of a branch at once.

// A form is a saga's bodies in one text, of pieces between blanks: a step is its name; Vs is a vital sub-saga s, Ls one that is not; ( | ) stand around bodies; and behind < stand the names on which a node leans, with commas between.

type node struct {
	number int
	name   string
	sub    bool
	bodies [][]*node
	up     *node
	alt    int
	on     []string
	leans  []*node
}

// saga is a form's plan and its nodes, by their numbers.
type saga struct {
	form  string
	plan  api.Plan
	nodes []*node
}

func sagaOf(t testing.TB, form string) saga {
	t.Helper()
	root := &node{sub: true, bodies: [][]*node{nil}}
	g, text, in := saga{form: form, nodes: []*node{root}}, "saga t { (", root
	for _, piece := range strings.Fields(form) {
		head, on, _ := strings.Cut(piece, "<")
		after := ""
		if on != "" {
			after = " after " + strings.ReplaceAll(on, ",", " , ")
		}
		switch head[0] {
		case '(':
			text, in = text+" { (", g.nodes[len(g.nodes)-1]
			in.bodies = append(in.bodies, nil)
			continue
		case '|':
			text += " ) or ("
			in.bodies = append(in.bodies, nil)
			continue
		case ')':
			text, in = text+" ) }", in.up
			continue
		case 'V', 'L':
			kind := map[byte]string{'V': " vital sub ", 'L': " loose sub "}[head[0]]
			text += kind + head[1:] + after
		default:
			text += " step " + head + " undo u" + after + " ;"
		}
		n := &node{number: len(g.nodes), name: strings.TrimLeft(head, "VL"), up: in, alt: len(in.bodies) - 1}
		n.sub = n.name != head
		n.on = strings.FieldsFunc(on, func(r rune) bool { return r == ',' })
		in.bodies[n.alt] = append(in.bodies[n.alt], n)
		g.nodes = append(g.nodes, n)
		if len(n.name) == 1 && int(n.name[0]) != 'a'+n.number-1 {
			t.Fatal(form, "names", n.name, "out of order")
		}
	}
	for _, n := range g.nodes {
		for _, name := range n.on {
			n.leans = append(n.leans, g.named(name))
		}
	}
	g.plan = made(t, text+" ) }")
	return g
}

func (g saga) named(name string) *node {
	return g.nodes[slices.IndexFunc(g.nodes, func(n *node) bool { return n.name == name })]
}

func made(t testing.TB, text string) api.Plan {
	t.Helper()
	g, at, e := syntax.Read(text)
	if e != api.OK {
		t.Fatal(text, at, int(e))
	}
	p, e := plan.Make(g)
	if e != api.OK {
		t.Fatal(text, int(e))
	}
	return p
}

// within are the steps of nodes, and of all that stands in them.
func within(l ...*node) []int {
	var all []int
	for _, n := range l {
		if !n.sub {
			all = append(all, n.number)
		}
		all = append(all, within(slices.Concat(n.bodies...)...)...)
	}
	return all
}

// reckon gathers all steps' causes: what a node has of what stands around it, its leanings, and the bodies ahead go down to all that stands in it.
func (g saga) reckon() (begin, undo map[int][]int) {
	begin, undo = map[int][]int{}, map[int][]int{}
	var down func(n *node, ahead, beside []int)
	down = func(n *node, ahead, beside []int) {
		ahead = slices.Concat(ahead, within(n.leans...))
		if !n.sub {
			begin[n.number], undo[n.number] = sorted(ahead), sorted(beside)
		}
		for alt, b := range n.bodies {
			was := slices.Concat(n.bodies[:alt]...)
			for _, k := range b {
				down(k, slices.Concat(ahead, within(was...)), slices.Concat(beside, within(b...)))
			}
		}
	}
	down(g.nodes[0], nil, nil)
	return begin, undo
}

func sorted(l []int) []int {
	l = slices.Clone(l)
	slices.Sort(l)
	return slices.Compact(l)
}

// reckonStamp tells of each branch the greatest count that stands in a stamp of these places.
func reckonStamp(at []int, last [][]int) []int {
	most := map[int]int{}
	long := 0
	for _, i := range at {
		if i >= len(last) {
			continue
		}
		long = max(long, len(last[i]))
		for b, n := range last[i] {
			most[b] = max(most[b], n)
		}
	}
	l := make([]int, long)
	for b := range l {
		l[b] = most[b]
	}
	return l
}

// anyStamps makes stamps, of which some are none.
func anyStamps(r *rand.Rand, count int) [][]int {
	l := make([][]int, count)
	for i := range l {
		for range r.Intn(5) {
			l[i] = append(l[i], r.Intn(9))
		}
	}
	return l
}

// anyFacts makes facts, right or not, of which few are zero.
func anyFacts(r *rand.Rand, count int) []api.Fact {
	l := make([]api.Fact, count)
	for i := range l {
		l[i] = api.Fact{Run: api.Run(r.Intn(5)), Tries: r.Intn(4), Slips: r.Intn(3), Undone: r.Intn(2) == 0}
	}
	return l
}

// holds holds all calls of a saga's keys against the reckoning.
func (g saga) holds(t *testing.T, r *rand.Rand) {
	t.Helper()
	begin, undo := g.reckon()
	for i := -1; i < len(g.nodes)+2; i++ {
		for _, k := range []api.Key{{Item: i}, {Item: i, Undo: true}, {Item: i, Try: r.Intn(9) - 4}, {Item: i, Undo: true, Try: r.Intn(9) - 4}} {
			want, isStep := begin[i]
			if k.Undo {
				want = undo[i]
			}
			if l := Of(g.plan, k); !slices.Equal(l, want) {
				t.Fatalf("%s: Of %v: %v, want %v", g.form, k, l, want)
			}
			last := anyStamps(r, r.Intn(len(g.nodes)+3))
			if s := Stamp(g.plan, k, last); !slices.Equal(s, reckonStamp(want, last)) {
				t.Fatalf("%s: Stamp %v %v: %v, want %v", g.form, k, last, s, reckonStamp(want, last))
			}
			l := anyFacts(r, r.Intn(len(g.nodes)+3))
			only := make([]api.Fact, len(l))
			for at := range l {
				if at == i || slices.Contains(want, at) {
					only[at] = l[at]
				}
			}
			if !isStep {
				only = nil
			}
			if m := Only(g.plan, k, l); !slices.Equal(m, only) {
				t.Fatalf("%s: Only %v %v: %v, want %v", g.form, k, l, m, only)
			}
		}
	}
}

// shapes are all ways in which so many nodes may stand in bodies, without names.
func shapes(count int) []string {
	l := bodyShapes(count)
	for first := 1; first < count; first++ {
		for _, a := range bodyShapes(first) {
			for _, b := range shapes(count - first) {
				l = append(l, a+" | "+b)
			}
		}
	}
	return l
}

func bodyShapes(count int) []string {
	var l []string
	for first := 1; first <= count; first++ {
		heads := []string{"-"}
		if first > 1 {
			heads = nil
			for _, in := range shapes(first - 1) {
				heads = append(heads, "V ( "+in+" )", "L ( "+in+" )")
			}
		}
		if first == count {
			l = append(l, heads...)
			continue
		}
		for _, a := range heads {
			for _, b := range bodyShapes(count - first) {
				l = append(l, a+" "+b)
			}
		}
	}
	return l
}

// forms are all ways in which the nodes of a shape may lean on those ahead of them, with names.
func forms(shape string) []string {
	done, name := []string{""}, byte('a')
	bodies := [][]byte{nil}
	top := func() *[]byte { return &bodies[len(bodies)-1] }
	for _, piece := range strings.Fields(shape) {
		var ends []string
		switch piece {
		case "(":
			bodies = append(bodies, nil)
			ends = []string{piece}
		case ")":
			bodies = bodies[:len(bodies)-1]
			ends = []string{piece}
		case "|":
			*top() = nil
			ends = []string{piece}
		default:
			head := strings.Trim(piece, "-") + string(name)
			for bits := range 1 << len(*top()) {
				var on []string
				for i, other := range *top() {
					if bits>>i&1 == 1 {
						on = append(on, string(other))
					}
				}
				ends = append(ends, strings.TrimRight(head+"<"+strings.Join(on, ","), "<"))
			}
			*top() = append(*top(), name)
			name++
		}
		var longer []string
		for _, a := range done {
			for _, b := range ends {
				longer = append(longer, a+b+" ")
			}
		}
		done = longer
	}
	return done
}

// P22.1 to P22.3: all sagas of up to four nodes, and many of five.
func TestReckonAll(t *testing.T) {
	r := rand.New(rand.NewSource(22))
	many := 0
	for count := 1; count <= 5; count++ {
		for _, shape := range shapes(count) {
			for _, form := range forms(shape) {
				// Of five nodes, there may be a body too many.
				if count < 5 || strings.Count(shape, "|") < api.MaxAlts && r.Intn(4) == 0 {
					sagaOf(t, form).holds(t, r)
					many++
				}
			}
		}
	}
	if many < 1000 {
		t.Error("few sagas:", many)
	}
}

// anyForm makes a saga of at most so many nodes, with leanings on nodes ahead and behind.
func anyForm(r *rand.Rand, count int) string {
	m := &maker{r: r, left: count}
	return m.bodies(1)
}

type maker struct {
	r    *rand.Rand
	left int
	made int
}

func (m *maker) bodies(deep int) string {
	var bodies []string
	for range 1 + m.r.Intn(3) {
		// Who may lean on whom is told by ranks, so that there is no circle.
		var names, nodes []string
		rank := m.r.Perm(6)
		for range 1 + m.r.Intn(5) {
			if m.left == 0 {
				break
			}
			m.left--
			m.made++
			names = append(names, "n"+strconv.Itoa(m.made))
			nodes = append(nodes, m.inside(deep))
		}
		if len(nodes) > 0 {
			bodies = append(bodies, m.joined(names, nodes, rank))
		}
	}
	return strings.Join(bodies, " | ")
}

// inside makes what stands in a node: nothing in a step.
func (m *maker) inside(deep int) string {
	if deep == api.MaxDepth || m.left == 0 || m.r.Intn(5) < 2 {
		return ""
	}
	return " ( " + m.bodies(deep+1) + " )"
}

func (m *maker) joined(names, nodes []string, rank []int) string {
	var l []string
	for i, in := range nodes {
		var on []string
		for j, other := range names {
			if rank[j] < rank[i] && m.r.Intn(3) == 0 {
				on = append(on, other)
			}
		}
		kind := ""
		if in != "" {
			kind = []string{"V", "L"}[m.r.Intn(2)]
		}
		l = append(l, strings.TrimRight(kind+names[i]+"<"+strings.Join(on, ","), "<")+in)
	}
	return strings.Join(l, " ")
}

// P22.1 to P22.3: any sagas.
func TestReckonAny(t *testing.T) {
	r := rand.New(rand.NewSource(2201))
	for range 100 {
		sagaOf(t, anyForm(r, 1+r.Intn(40))).holds(t, r)
	}
}

// moves are the facts to which one beginning or ending more leads. Undoing fails at most so often.
func (g saga) moves(t *testing.T, l []api.Fact, slips int) [][]api.Fact {
	t.Helper()
	var all [][]api.Fact
	add := func(then []api.Fact, e api.Errno) {
		if e != api.OK {
			t.Fatal(g.form, l, int(e))
		}
		all = append(all, then)
	}
	for _, k := range task.May(g.plan, l) {
		add(task.Begin(g.plan, l, k))
	}
	for _, k := range fact.Open(g.plan, l) {
		add(task.End(g.plan, l, k, true))
		if !k.Undo || k.Try < slips {
			add(task.End(g.plan, l, k, false))
		}
	}
	return all
}

// enough holds of facts that what may begin may begin by its causes' facts and its own, and that none of these causes is open. It tells how many keys may begin.
func (g saga) enough(t *testing.T, l []api.Fact) int {
	t.Helper()
	may, open := task.May(g.plan, l), fact.Open(g.plan, l)
	for _, k := range may {
		if only := Only(g.plan, k, l); !task.Is(g.plan, only, k) {
			t.Fatalf("%s: %v may begin by %v, but not by %v", g.form, k, l, only)
		}
		if k.Undo {
			continue
		}
		causes := Of(g.plan, k)
		for _, o := range open {
			if slices.Contains(causes, o.Item) {
				t.Fatalf("%s: %v may begin by %v, while its cause %v is open", g.form, k, l, o)
			}
		}
	}
	return len(may)
}

// enoughInAll holds that of all facts that come about. It tells how many there are, and how many keys may begin in them.
func (g saga) enoughInAll(t *testing.T, slips int) (facts, keys int) {
	t.Helper()
	work := [][]api.Fact{fact.None(g.plan)}
	seen := map[string]bool{fmt.Sprint(work[0]): true}
	for len(work) > 0 {
		l := work[0]
		work = work[1:]
		keys += g.enough(t, l)
		for _, then := range g.moves(t, l, slips) {
			if s := fmt.Sprint(then); !seen[s] {
				seen[s] = true
				work = append(work, then)
			}
		}
	}
	return len(seen), keys
}

// P22.4, P22.5: all facts that come about in all sagas of up to four nodes.
func TestEnoughAll(t *testing.T) {
	facts, keys := 0, 0
	for count := 1; count <= 4; count++ {
		for _, shape := range shapes(count) {
			for _, form := range forms(shape) {
				n, m := sagaOf(t, form).enoughInAll(t, 1)
				facts, keys = facts+n, keys+m
			}
		}
	}
	if facts < 2000 || keys < 1000 {
		t.Error("few facts or keys:", facts, keys)
	}
}

// P22.4, P22.5: all facts that come about in some greater sagas.
func TestEnoughSome(t *testing.T) {
	for _, form := range []string{
		"a Lb<a ( c | d ) e<b f",
		"a b Vc<a ( d | e ) f<c | g",
		"La ( b | c ) Vd<a ( e f ) g | h",
		"Va ( Lb ( c d ) e<b f ) g<a | h",
		"a Lb<a ( Vc ( d e | f ) ) g<b h",
		"a b | c d | Le ( f g | h )",
	} {
		n, m := sagaOf(t, form).enoughInAll(t, 1)
		if n < 100 || m < 50 {
			t.Error(form, "few facts or keys:", n, m)
		}
	}
	// All tries of each step.
	sagaOf(t, "a Lb<a ( c | d )").enoughInAll(t, api.MaxTries)
}

// P22.4, P22.5: facts that come about in any sagas, of which few things fail.
func TestEnoughAny(t *testing.T) {
	r := rand.New(rand.NewSource(2204))
	undoings := 0
	for range 250 {
		g := sagaOf(t, anyForm(r, 1+r.Intn(20)))
		for l := fact.None(g.plan); ; {
			g.enough(t, l)
			may, open := task.May(g.plan, l), fact.Open(g.plan, l)
			if len(may)+len(open) == 0 {
				break
			}
			if at := r.Intn(len(may) + len(open)); at < len(may) {
				l, _ = task.Begin(g.plan, l, may[at])
				undoings += map[bool]int{true: 1}[may[at].Undo]
			} else {
				k := open[at-len(may)]
				l, _ = task.End(g.plan, l, k, r.Intn(6) > 0 || k.Try == api.MaxTries)
			}
		}
	}
	if undoings < 50 {
		t.Error("few undoings:", undoings)
	}
}

// has tells whether all these stand in a list.
func has(l, all []int) bool {
	return !slices.ContainsFunc(all, func(i int) bool { return !slices.Contains(l, i) })
}

// alike holds of a saga that what leans on something, or comes behind it, has it among its causes, and all that stands in it; that what leans on the same, and stands in the same body, has the same; and that what of a body of the saga itself is undone has the same, too.
func (g saga) alike(t *testing.T) {
	t.Helper()
	for _, a := range g.nodes[1:] {
		for _, b := range g.nodes[1:] {
			isBehind := b.up == a.up && b.alt > a.alt
			for _, i := range within(b) {
				if l := Of(g.plan, api.Key{Item: i}); (isBehind || slices.Contains(b.leans, a)) && !has(l, within(a)) {
					t.Fatalf("%s: causes of %d: %v, without those in %d", g.form, i, l, a.number)
				}
			}
			if a.sub || b.sub || a.up != b.up || a.alt != b.alt {
				continue
			}
			l, m := Of(g.plan, api.Key{Item: a.number}), Of(g.plan, api.Key{Item: b.number})
			if !slices.Equal(l, m) && slices.Equal(sorted(within(a.leans...)), sorted(within(b.leans...))) {
				t.Fatalf("%s: %d and %d are alike, but their causes are %v, and %v", g.form, a.number, b.number, l, m)
			}
		}
	}
	for _, b := range g.nodes[0].bodies {
		for _, i := range within(b...) {
			if l := Of(g.plan, api.Key{Item: i, Undo: true}); !slices.Equal(l, sorted(within(b...))) {
				t.Fatalf("%s: causes of undoing %d: %v", g.form, i, l)
			}
		}
	}
}

// P22.6: all sagas of three nodes, and any greater ones.
func TestAlike(t *testing.T) {
	for _, shape := range shapes(3) {
		for _, form := range forms(shape) {
			sagaOf(t, form).alike(t)
		}
	}
	r := rand.New(rand.NewSource(2206))
	for range 20 {
		sagaOf(t, anyForm(r, 1+r.Intn(30))).alike(t)
	}
}
