package dag

import (
	"math"
	"math/rand"
	"slices"
	"testing"

	"argosy/api"
)

// arcs makes arcs of pairs: from, to, from, to ..
func arcs(ends ...int) []api.Arc {
	var l []api.Arc
	for i := 0; i < len(ends); i += 2 {
		l = append(l, api.Arc{From: ends[i], To: ends[i+1]})
	}
	return l
}

// grid says of each pair of nodes whether the second one leans on the first one.
type grid [][]bool

func newGrid(n int) grid {
	g := make(grid, n)
	for i := range g {
		g[i] = make([]bool, n)
	}
	return g
}

func gridOf(n int, l []api.Arc) grid {
	g := newGrid(n)
	for _, a := range l {
		g[a.From][a.To] = true
	}
	return g
}

// chains says of each pair whether a chain leads from the first one to the second one.
func (g grid) chains() grid {
	c := newGrid(len(g))
	for i := range g {
		copy(c[i], g[i])
	}
	for k := range c {
		for i := range c {
			for j := range c {
				c[i][j] = c[i][j] || c[i][k] && c[k][j]
			}
		}
	}
	return c
}

func (g grid) circle() bool {
	for i, row := range g.chains() {
		if row[i] {
			return true
		}
	}
	return false
}

// expectError tells the error as the chapter's words say.
func expectError(n int, l []api.Arc) api.Errno {
	if n < 0 || n > 64 || len(l) > 4096 {
		return api.ErrArg
	}
	for _, a := range l {
		if a.From < 0 || a.To < 0 || a.From >= n || a.To >= n {
			return api.ErrArg
		}
	}
	if gridOf(n, l).circle() {
		return api.ErrCycle
	}
	return api.OK
}

func (g grid) expectOrder() []int {
	var order []int
	for len(order) < len(g) {
		for i := range g {
			ok := !slices.Contains(order, i)
			for j := range g {
				if g[j][i] && !slices.Contains(order, j) {
					ok = false
				}
			}
			if ok {
				order = append(order, i)
				break
			}
		}
	}
	return order
}

func (g grid) expectReach() [][]int {
	c := g.chains()
	lists := make([][]int, len(g))
	for i := range g {
		for j := range g {
			if c[j][i] {
				lists[i] = append(lists[i], j)
			}
		}
	}
	return lists
}

// expectLevels lets chains grow by one node till none does: there are at most as many rounds as nodes.
func (g grid) expectLevels() []int {
	levels := make([]int, len(g))
	for range g {
		for i := range g {
			for j := range g {
				if g[j][i] {
					levels[i] = max(levels[i], levels[j]+1)
				}
			}
		}
	}
	return levels
}

func (g grid) expectReduce() []api.Arc {
	c := g.chains()
	var l []api.Arc
	for i := range g {
		for j := range g {
			between := false
			for k := range g {
				between = between || c[i][k] && c[k][j]
			}
			if g[i][j] && !between {
				l = append(l, api.Arc{From: i, To: j})
			}
		}
	}
	return l
}

func (g grid) expectReady(done []int) []int {
	var l []int
	for i := range g {
		ok := !slices.Contains(done, i)
		for j := range g {
			if g[j][i] && !slices.Contains(done, j) {
				ok = false
			}
		}
		if ok {
			l = append(l, i)
		}
	}
	return l
}

func sameLists(a, b [][]int) bool {
	return slices.EqualFunc(a, b, func(x, y []int) bool { return slices.Equal(x, y) })
}

// refused holds that each call but Turn answers that error, and nothing beside it.
func refused(t *testing.T, n int, l []api.Arc, e api.Errno) {
	t.Helper()
	if r, f := Order(n, l); f != e || len(r) != 0 {
		t.Errorf("Order of %d, %d arcs: %v, %d, not %d", n, len(l), r, f, e)
	}
	if r, f := Reach(n, l); f != e || len(r) != 0 {
		t.Errorf("Reach of %d, %d arcs: %v, %d, not %d", n, len(l), r, f, e)
	}
	if r, f := Levels(n, l); f != e || len(r) != 0 {
		t.Errorf("Levels of %d, %d arcs: %v, %d, not %d", n, len(l), r, f, e)
	}
	if r, f := Reduce(n, l); f != e || len(r) != 0 {
		t.Errorf("Reduce of %d, %d arcs: %v, %d, not %d", n, len(l), r, f, e)
	}
	if r, f := Ready(n, l, nil); f != e || len(r) != 0 {
		t.Errorf("Ready of %d, %d arcs: %v, %d, not %d", n, len(l), r, f, e)
	}
}

// hold holds all calls against what the chapter's words say of these arcs.
func hold(t *testing.T, n int, l []api.Arc, done []int) {
	t.Helper()
	if e := expectError(n, l); e != api.OK {
		refused(t, n, l, e)
		return
	}
	g := gridOf(n, l)
	if r, e := Order(n, l); e != api.OK || !slices.Equal(r, g.expectOrder()) {
		t.Errorf("Order of %d, %v: %v, %d, not %v", n, l, r, e, g.expectOrder())
	}
	if r, e := Reach(n, l); e != api.OK || !sameLists(r, g.expectReach()) {
		t.Errorf("Reach of %d, %v: %v, %d, not %v", n, l, r, e, g.expectReach())
	}
	if r, e := Levels(n, l); e != api.OK || !slices.Equal(r, g.expectLevels()) {
		t.Errorf("Levels of %d, %v: %v, %d, not %v", n, l, r, e, g.expectLevels())
	}
	if r, e := Reduce(n, l); e != api.OK || !slices.Equal(r, g.expectReduce()) {
		t.Errorf("Reduce of %d, %v: %v, %d, not %v", n, l, r, e, g.expectReduce())
	}
	if r, e := Ready(n, l, done); e != api.OK || !slices.Equal(r, g.expectReady(done)) {
		t.Errorf("Ready of %d, %v, %v: %v, %d, not %v", n, l, done, r, e, g.expectReady(done))
	}
}

// someArcs makes arcs without circles among n nodes, in any order, some of them twice or more.
func someArcs(r *rand.Rand, n, count int) []api.Arc {
	if n < 2 {
		return nil
	}
	row := r.Perm(n)
	var l []api.Arc
	for range count {
		i, j := r.Intn(n), r.Intn(n)
		if i != j {
			l = append(l, api.Arc{From: row[min(i, j)], To: row[max(i, j)]})
		}
		if len(l) > 0 && r.Intn(6) == 0 {
			l = append(l, l[r.Intn(len(l))])
		}
	}
	return l
}

func someNodes(r *rand.Rand, n int) []int {
	var l []int
	if n > 0 {
		for range r.Intn(2 * n) {
			l = append(l, r.Intn(n))
		}
	}
	return l
}

// forSome hands some arcs without circles to f, of few nodes and of as many as there may be.
func forSome(f func(r *rand.Rand, n int, l []api.Arc)) {
	r := rand.New(rand.NewSource(4))
	for range 300 {
		n := r.Intn(12)
		f(r, n, someArcs(r, n, r.Intn(3*n+1)))
	}
	for range 20 {
		f(r, 64, someArcs(r, 64, r.Intn(400)))
	}
	f(r, 63, someArcs(r, 63, 3000))
}

// All webs of up to four nodes, those with circles, too.
func TestSmallWebs(t *testing.T) {
	for n := range 5 {
		for web := range 1 << (n * n) {
			var l []api.Arc
			for i := range n * n {
				if web>>i&1 == 1 {
					l = append(l, api.Arc{From: i / n, To: i % n})
				}
			}
			var done []int
			for i := range n {
				if web*7>>i&1 == 1 {
					done = append(done, i)
				}
			}
			hold(t, n, l, done)
			if t.Failed() {
				return
			}
		}
	}
}

func TestSomeWebs(t *testing.T) {
	forSome(func(r *rand.Rand, n int, l []api.Arc) {
		hold(t, n, l, someNodes(r, n))
		if len(l) > 0 && n > 1 {
			closing := l[r.Intn(len(l))]
			hold(t, n, append(l, api.Arc{From: closing.To, To: closing.From}), nil)
		}
	})
}

func TestExample(t *testing.T) {
	l := arcs(2, 0, 0, 1, 2, 1)
	if r, e := Order(3, l); e != api.OK || !slices.Equal(r, []int{2, 0, 1}) {
		t.Error(r, e)
	}
	if r, e := Reach(3, l); e != api.OK || !sameLists(r, [][]int{{2}, {0, 2}, {}}) {
		t.Error(r, e)
	}
	if r, e := Levels(3, l); e != api.OK || !slices.Equal(r, []int{1, 2, 0}) {
		t.Error(r, e)
	}
	if r, e := Reduce(3, l); e != api.OK || !slices.Equal(r, arcs(0, 1, 2, 0)) {
		t.Error(r, e)
	}
	if r, e := Ready(3, l, nil); e != api.OK || !slices.Equal(r, []int{2}) {
		t.Error(r, e)
	}
}

func TestCountOfNodes(t *testing.T) {
	for _, n := range []int{-1, -64, 65, 128, math.MinInt, math.MaxInt} {
		refused(t, n, nil, api.ErrArg)
	}
	for _, n := range []int{0, 1, 2, 63, 64} {
		order, e := Order(n, nil)
		if e != api.OK || len(order) != n {
			t.Fatal(n, order, e)
		}
		for i, node := range order {
			if node != i {
				t.Fatal(n, order)
			}
		}
		hold(t, n, nil, nil)
		hold(t, n, []api.Arc{}, []int{})
	}
}

func TestCountOfArcs(t *testing.T) {
	many := slices.Repeat(arcs(0, 1), 4096)
	hold(t, 2, many, []int{0})
	refused(t, 2, append(many, api.Arc{From: 0, To: 1}), api.ErrArg)
	refused(t, 2, slices.Repeat(arcs(0, 1), 5000), api.ErrArg)
	refused(t, 2, slices.Repeat(arcs(0, 0), 4096), api.ErrCycle)
	refused(t, 2, slices.Repeat(arcs(0, 0), 4097), api.ErrArg)
	var all []api.Arc
	for i := range 64 {
		for j := range i {
			all = append(all, api.Arc{From: i, To: j})
		}
	}
	hold(t, 64, all, []int{63, 62})
}

func TestEndsThatAreNoNodes(t *testing.T) {
	for _, n := range []int{0, 1, 3, 63, 64} {
		for _, bad := range []int{-1, n, n + 1, -64, 64, 65, 127, math.MinInt, math.MaxInt} {
			refused(t, n, arcs(bad, bad), api.ErrArg)
			if n == 0 {
				continue
			}
			refused(t, n, arcs(bad, 0), api.ErrArg)
			refused(t, n, arcs(0, bad), api.ErrArg)
			// A circle ahead of it, or behind it, is not told.
			refused(t, n, arcs(0, 0, 0, bad), api.ErrArg)
			refused(t, n, arcs(bad, 0, n-1, n-1), api.ErrArg)
		}
	}
	refused(t, 3, arcs(0, 1, 1, 0, 3, 2), api.ErrArg)
}

func TestCircles(t *testing.T) {
	refused(t, 1, arcs(0, 0), api.ErrCycle)
	refused(t, 64, arcs(63, 63), api.ErrCycle)
	refused(t, 2, arcs(0, 1, 1, 0), api.ErrCycle)
	refused(t, 5, arcs(0, 1, 3, 4, 4, 3, 1, 2), api.ErrCycle)
	refused(t, 3, arcs(0, 1, 1, 2, 2, 1), api.ErrCycle)
	var around []api.Arc
	for i := range 64 {
		around = append(around, api.Arc{From: i, To: (i + 1) % 64})
	}
	refused(t, 64, around, api.ErrCycle)
	for i := range around {
		hold(t, 64, slices.Delete(slices.Clone(around), i, i+1), []int{i})
	}
}

// P4.1
func TestOrder(t *testing.T) {
	for _, c := range []struct {
		n int
		l []api.Arc
		r []int
	}{
		{4, arcs(3, 0), []int{1, 2, 3, 0}},
		{4, arcs(3, 1, 1, 0), []int{2, 3, 1, 0}},
		{4, arcs(2, 0, 2, 0, 2, 0), []int{1, 2, 0, 3}},
		{5, arcs(4, 3, 3, 2, 2, 1, 1, 0), []int{4, 3, 2, 1, 0}},
		// Once 2 is there, 0 is the least again, though 3 was free ahead of it.
		{4, arcs(2, 0, 2, 1), []int{2, 0, 1, 3}},
		{6, arcs(5, 0, 1, 4), []int{1, 2, 3, 4, 5, 0}},
	} {
		if r, e := Order(c.n, c.l); e != api.OK || !slices.Equal(r, c.r) {
			t.Error(c, r, e)
		}
	}
}

// P4.2
func TestReachAndLevels(t *testing.T) {
	// A short chain and a long one from 0 to 3, and 5 alone.
	l := arcs(0, 3, 0, 4, 4, 2, 2, 3, 3, 1)
	if r, e := Reach(6, l); e != api.OK || !sameLists(r, [][]int{nil, {0, 2, 3, 4}, {0, 4}, {0, 2, 4}, {0}, nil}) {
		t.Error(r, e)
	}
	if r, e := Levels(6, l); e != api.OK || !slices.Equal(r, []int{0, 4, 2, 3, 1, 0}) {
		t.Error(r, e)
	}
	if r, e := Reach(3, nil); e != api.OK || !sameLists(r, [][]int{nil, nil, nil}) {
		t.Error(r, e)
	}
	if r, e := Levels(3, nil); e != api.OK || !slices.Equal(r, []int{0, 0, 0}) {
		t.Error(r, e)
	}
}

// P4.3
func TestReduce(t *testing.T) {
	for _, c := range []struct {
		n    int
		l, r []api.Arc
	}{
		{3, nil, nil},
		{2, arcs(0, 1), arcs(0, 1)},
		{2, arcs(1, 0, 1, 0, 1, 0), arcs(1, 0)},
		// By a chain of three, and by one of four.
		{3, arcs(0, 2, 1, 2, 0, 1), arcs(0, 1, 1, 2)},
		{4, arcs(0, 3, 2, 3, 1, 2, 0, 1), arcs(0, 1, 1, 2, 2, 3)},
		{4, arcs(0, 3, 0, 3, 2, 3, 2, 3, 0, 2), arcs(0, 2, 2, 3)},
		// Two chains of three beside each other make none needless.
		{4, arcs(2, 3, 1, 3, 0, 2, 0, 1), arcs(0, 1, 0, 2, 1, 3, 2, 3)},
		// Arcs that are needless themselves make others so, too.
		{4, arcs(0, 1, 0, 2, 0, 3, 1, 2, 1, 3, 2, 3), arcs(0, 1, 1, 2, 2, 3)},
		{64, arcs(63, 0, 0, 62, 63, 62), arcs(0, 62, 63, 0)},
	} {
		if r, e := Reduce(c.n, c.l); e != api.OK || !slices.Equal(r, c.r) {
			t.Error(c, r, e)
		}
	}
}

// P4.4
func TestReady(t *testing.T) {
	l := arcs(0, 1, 1, 2, 0, 3, 0, 3)
	for _, c := range []struct{ done, r []int }{
		{nil, []int{0, 4}},
		{[]int{}, []int{0, 4}},
		{[]int{0}, []int{1, 3, 4}},
		{[]int{4, 0, 0, 4}, []int{1, 3}},
		// 2 leans on 1 alone by one arc; that 0 isn't done doesn't hold it up.
		{[]int{1}, []int{0, 2, 4}},
		{[]int{3, 2}, []int{0, 4}},
		{[]int{4, 3, 2, 1, 0}, nil},
		{slices.Repeat([]int{0, 1}, 5000), []int{2, 3, 4}},
	} {
		if r, e := Ready(5, l, c.done); e != api.OK || !slices.Equal(r, c.r) {
			t.Error(c, r, e)
		}
	}
	all := make([]int, 64)
	for i := range all {
		all[i] = i
	}
	if r, e := Ready(64, nil, all); e != api.OK || len(r) != 0 {
		t.Error(r, e)
	}
	if r, e := Ready(64, arcs(62, 63), all[:63]); e != api.OK || !slices.Equal(r, []int{63}) {
		t.Error(r, e)
	}
}

func TestReadyOfNoNode(t *testing.T) {
	for _, n := range []int{0, 1, 3, 64} {
		for _, bad := range []int{-1, n, n + 1, 64, 65, -64, math.MinInt, math.MaxInt} {
			if r, e := Ready(n, nil, []int{bad}); e != api.ErrArg || len(r) != 0 {
				t.Error(n, bad, r, e)
			}
			if n > 0 {
				if r, e := Ready(n, nil, []int{0, bad, 0}); e != api.ErrArg || len(r) != 0 {
					t.Error(n, bad, r, e)
				}
			}
		}
	}
	// What each call answers first, Ready does, whatever stands in done.
	for _, done := range [][]int{nil, {0}, {7}} {
		if r, e := Ready(2, arcs(0, 1, 1, 0), done); e != api.ErrCycle || len(r) != 0 {
			t.Error(done, r, e)
		}
		if r, e := Ready(2, arcs(0, 2), done); e != api.ErrArg || len(r) != 0 {
			t.Error(done, r, e)
		}
		if r, e := Ready(65, nil, done); e != api.ErrArg || len(r) != 0 {
			t.Error(done, r, e)
		}
	}
}

// P4.5
func TestTurn(t *testing.T) {
	for _, c := range []struct{ l, r []api.Arc }{
		{nil, nil},
		{[]api.Arc{}, nil},
		{arcs(0, 1), arcs(1, 0)},
		{arcs(2, 2), arcs(2, 2)},
		{arcs(5, 1, 0, 9, 5, 1), arcs(1, 5, 9, 0, 1, 5)},
		{arcs(math.MinInt, math.MaxInt, -1, 65), arcs(math.MaxInt, math.MinInt, 65, -1)},
		{slices.Repeat(arcs(0, 1, 1, 0), 3000), slices.Repeat(arcs(1, 0, 0, 1), 3000)},
	} {
		if r := Turn(c.l); !slices.Equal(r, c.r) {
			t.Error(c, r)
		}
		if r := Turn(Turn(c.l)); !slices.Equal(r, c.l) {
			t.Error(c, r)
		}
	}
}

// P4.6
func TestFollows(t *testing.T) {
	forSome(func(_ *rand.Rand, n int, l []api.Arc) {
		order, _ := Order(n, l)
		reach, _ := Reach(n, l)
		if len(order) != n || len(reach) != n {
			t.Fatal(n, l, order, reach)
		}
		for i, node := range order {
			if slices.Contains(order[:i], node) {
				t.Fatal(n, l, order)
			}
			for _, from := range reach[node] {
				if !slices.Contains(order[:i], from) {
					t.Fatal(n, l, order, reach)
				}
			}
		}
	})
}

// P4.7
func TestShut(t *testing.T) {
	forSome(func(_ *rand.Rand, n int, l []api.Arc) {
		reach, _ := Reach(n, l)
		few, e := Reduce(n, l)
		if e != api.OK {
			t.Fatal(n, l, e)
		}
		if again, e := Reach(n, few); e != api.OK || !sameLists(again, reach) {
			t.Fatal(n, l, few, again, e)
		}
		for i := range few {
			if !slices.Contains(l, few[i]) {
				t.Fatal(n, l, few)
			}
			less, e := Reach(n, slices.Delete(slices.Clone(few), i, i+1))
			if e != api.OK || sameLists(less, reach) {
				t.Fatal(n, l, few, i, e)
			}
		}
		if again, e := Reduce(n, few); e != api.OK || !slices.Equal(again, few) {
			t.Fatal(n, l, few, again, e)
		}
	})
}

// P4.8
func TestTurned(t *testing.T) {
	forSome(func(_ *rand.Rand, n int, l []api.Arc) {
		reach, _ := Reach(n, l)
		turned, e := Reach(n, Turn(l))
		if e != api.OK || len(turned) != n || len(reach) != n {
			t.Fatal(n, l, e)
		}
		for i := range n {
			for j := range n {
				if slices.Contains(turned[i], j) != slices.Contains(reach[j], i) {
					t.Fatal(n, l, i, j)
				}
			}
		}
	})
}

// What is handed in stays as it was, what stands behind its end, too.
func TestArgumentsStay(t *testing.T) {
	arg := arcs(3, 1, 2, 0, 2, 0, 3, 0, 9, 9)
	done := []int{3, 2, 3, 8}
	for _, l := range [][]api.Arc{arg[:4], arg[:0], arg} {
		Order(4, l)
		Reach(4, l)
		Levels(4, l)
		Reduce(4, l)
		Ready(4, l, done[:3])
		Turn(l)
	}
	if !slices.Equal(arg, arcs(3, 1, 2, 0, 2, 0, 3, 0, 9, 9)) || !slices.Equal(done, []int{3, 2, 3, 8}) {
		t.Error(arg, done)
	}
}

// spoil writes over all the room of a list.
func spoil[E any](l []E, with E) {
	l = l[:cap(l)]
	for i := range l {
		l[i] = with
	}
}

// An answer shares nothing with arguments, nor with other answers.
func TestNewMemory(t *testing.T) {
	l, done := arcs(0, 1, 1, 2), []int{0, 0}
	for range 2 {
		order, _ := Order(3, l)
		reach, _ := Reach(3, l)
		levels, _ := Levels(3, l)
		few, _ := Reduce(3, l)
		ready, _ := Ready(3, l, done)
		turned := Turn(l)
		spoil(order, -1)
		if !sameLists(reach, [][]int{nil, {0}, {0, 1}}) {
			t.Error(reach)
		}
		spoil(reach[1], -1)
		if !sameLists(reach, [][]int{nil, {-1}, {0, 1}}) {
			t.Error(reach)
		}
		spoil(reach[2], -1)
		spoil(levels, -1)
		spoil(few, api.Arc{From: -1})
		spoil(ready, -1)
		spoil(turned, api.Arc{From: -1})
		hold(t, 3, l, done)
		if !slices.Equal(l, arcs(0, 1, 1, 2)) || !slices.Equal(done, []int{0, 0}) {
			t.Error(l, done)
		}
	}
}
