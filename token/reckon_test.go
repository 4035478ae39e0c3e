package token

import (
	"cmp"
	"math/rand"
	"slices"
	"strconv"
	"strings"
	"testing"

	"argosy/api"
	"argosy/plan"
	"argosy/syntax"
)

// A form is a saga in one text: each . is a step, V( .. ) a vital sub-saga, L( .. ) one that is not, and | stands between bodies.

// formed tells a form's plan.
func formed(t testing.TB, form string) api.Plan {
	t.Helper()
	text, n := "saga t { (", 0
	for _, letter := range form {
		if strings.ContainsRune(".VL", letter) {
			n++
		}
		name := "n" + strconv.Itoa(n)
		switch letter {
		case '.':
			text += " step " + name + " undo u ;"
		case 'V':
			text += " vital sub " + name
		case 'L':
			text += " loose sub " + name
		case '(':
			text += " { ("
		case '|':
			text += " ) or ("
		case ')':
			text += " ) }"
		}
	}
	g, at, e := syntax.Read(text + " ) }")
	if e != api.OK {
		t.Fatal(form, at, int(e))
	}
	p, e := plan.Make(g)
	if e != api.OK {
		t.Fatal(form, int(e))
	}
	return p
}

// grown tells the tree of a form's plan.
func grown(t testing.TB, form string) *Tree {
	t.Helper()
	return treeOf(t, formed(t, form))
}

func treeOf(t testing.TB, p api.Plan) *Tree {
	t.Helper()
	k, e := New(p)
	if e != api.OK || k == nil {
		t.Fatal(k, int(e))
	}
	return k
}

// The second reckoning reads the form, not its plan: each body has a path, by which one comes to it from the saga down, and a token stands in another one, or is that one, if its path begins with the other one's. Of what was called off the numbers are kept, and nothing is ever turned.

type place struct {
	saga, alt int
	path      string
}

type ledger struct {
	places []place  // the token k's at k-1
	paths  []string // of each item that of the body in which it stands, empty of the saga
	called []int
}

func ledgerOf(form string) *ledger {
	l := &ledger{paths: []string{""}}
	var in []place
	open := func(saga, alt int) {
		path := strconv.Itoa(saga) + ":" + strconv.Itoa(alt) + "/"
		if len(in) > 0 {
			path = in[len(in)-1].path + path
		}
		in = append(in, place{saga, alt, path})
		l.places = append(l.places, in[len(in)-1])
	}
	open(0, 0)
	for _, letter := range form {
		switch last := in[len(in)-1]; letter {
		case '.', 'V', 'L':
			l.paths = append(l.paths, last.path)
		case '(':
			open(len(l.paths)-1, 0)
		case '|':
			in = in[:len(in)-1]
			open(last.saga, last.alt+1)
		case ')':
			in = in[:len(in)-1]
		}
	}
	slices.SortFunc(l.places, func(a, b place) int { return cmp.Or(a.saga-b.saga, a.alt-b.alt) })
	return l
}

func (l *ledger) find(is func(p place) bool) int { return slices.IndexFunc(l.places, is) + 1 }

func (l *ledger) of(i int) int {
	if i < 0 || i >= len(l.paths) {
		return 0
	}
	return l.find(func(p place) bool { return p.path == l.paths[i] })
}

func (l *ledger) in(s, alt int) int {
	return l.find(func(p place) bool { return p.saga == s && p.alt == alt })
}

// stands tells whether a token stands in another one, through others, too, or is that one.
func (l *ledger) stands(k, other int) bool {
	return strings.HasPrefix(l.places[k-1].path, l.places[other-1].path)
}

func (l *ledger) off(k int) bool {
	if k < 1 || k > len(l.places) {
		return true
	}
	return slices.ContainsFunc(l.called, func(other int) bool { return l.stands(k, other) })
}

func (l *ledger) live() []int {
	var live []int
	for k := range len(l.places) + 1 {
		if !l.off(k) {
			live = append(live, k)
		}
	}
	return live
}

func (l *ledger) cancel(k int) int {
	if l.off(k) {
		return 0
	}
	n := 0
	for other := 1; other <= len(l.places); other++ {
		if !l.off(other) && l.stands(other, k) {
			n++
		}
	}
	l.called = append(l.called, k)
	return n
}

// check holds what a tree tells of its tokens' being off against the ledger.
func check(t *testing.T, form string, k *Tree, l *ledger) {
	t.Helper()
	if live, want := k.Live(), l.live(); !slices.Equal(live, want) {
		t.Fatalf("%s, called off %v: live %v; want %v", form, l.called, live, want)
	}
	for x := -2; x < len(l.places)+3; x++ {
		if k.Off(x) != l.off(x) {
			t.Fatalf("%s, called off %v: %d is off: %v; want %v", form, l.called, x, k.Off(x), l.off(x))
		}
	}
}

// checkBodies holds what a tree tells of bodies against the ledger.
func checkBodies(t *testing.T, form string, k *Tree, l *ledger) {
	t.Helper()
	for i := -2; i < len(l.paths)+3; i++ {
		if k.Of(i) != l.of(i) {
			t.Fatalf("%s: of %d: %d; want %d", form, i, k.Of(i), l.of(i))
		}
		for alt := -2; alt < 6; alt++ {
			if k.In(i, alt) != l.in(i, alt) {
				t.Fatalf("%s: in %d, %d: %d; want %d", form, i, alt, k.In(i, alt), l.in(i, alt))
			}
		}
	}
}

// cancel calls off of both, and holds the tree against the ledger.
func cancel(t *testing.T, form string, k *Tree, l *ledger, x int) {
	t.Helper()
	called := slices.Clone(l.called)
	if n, want := k.Cancel(x), l.cancel(x); n != want {
		t.Fatalf("%s, called off %v: Cancel(%d): %d; want %d", form, called, x, n, want)
	}
	check(t, form, k, l)
}

// forms tells all forms of so many nodes, of so many bodies at most.
func forms(nodes, bodies int) []string {
	var l []string
	for first := 1; first <= nodes; first++ {
		for _, f := range rows(first) {
			if first == nodes {
				l = append(l, f)
			} else if bodies > 1 {
				l = append(l, joined(f+"|", forms(nodes-first, bodies-1))...)
			}
		}
	}
	return l
}

// rows tells all forms of one body of so many nodes.
func rows(nodes int) []string {
	if nodes == 0 {
		return []string{""}
	}
	l := joined(".", rows(nodes-1))
	for within := 1; within < nodes; within++ {
		for _, f := range forms(within, 4) {
			sub := string("VL"[within%2]) + "(" + f + ")"
			l = append(l, joined(sub, rows(nodes-1-within))...)
		}
	}
	return l
}

func joined(begin string, l []string) []string {
	var out []string
	for _, s := range l {
		out = append(out, begin+s)
	}
	return out
}

// maker makes forms of any shape, of so many nodes at most.
type maker struct {
	*rand.Rand
	left int
}

func anyForm(r *rand.Rand, nodes int) string {
	m := &maker{r, nodes}
	return m.bodies(1)
}

// bodies makes bodies, of one node each at least: who calls has left it one.
func (m *maker) bodies(deep int) string {
	s := m.row(deep)
	for n := 1; n < 4 && m.left > 0 && m.Intn(5) > 0; n++ {
		s += "|" + m.row(deep)
	}
	return s
}

func (m *maker) row(deep int) string {
	s := ""
	for n := 0; n < 16 && m.left > 0 && (n == 0 || m.Intn(3) == 0); n++ {
		m.left--
		if deep < 6 && m.left > 0 && m.Intn(5) > 0 {
			s += string("VL"[m.Intn(2)]) + "(" + m.bodies(deep+1) + ")"
		} else {
			s += "."
		}
	}
	return s
}
