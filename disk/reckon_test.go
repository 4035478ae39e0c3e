package disk

import (
	"math"
	"math/rand"
	"slices"
	"testing"

	"argosy/api"
)

// The second reckoning: each byte says of itself whether it is synced, and the room is what all files leave of what New and Grow said.

type cell struct {
	b    byte
	sure bool
}

type model struct {
	files [][]cell
	said  int
	armed bool
	fuse  int
	dead  bool
}

func expectNew(files, room int) *model {
	return &model{files: make([][]cell, files), said: room}
}

func (m *model) room() int {
	n := m.said
	for _, f := range m.files {
		n -= len(f)
	}
	return n
}

func (m *model) has(i int) bool { return 0 <= i && i < len(m.files) }

// spend is one call that is to be done.
func (m *model) spend() api.Errno {
	switch {
	case m.armed && m.fuse == 0:
		m.dead = true
		return api.ErrDown
	case m.armed:
		m.fuse--
	}
	return api.OK
}

func (m *model) append(i int, b []byte) api.Errno {
	switch {
	case m.dead:
		return api.ErrDown
	case !m.has(i):
		return api.ErrArg
	case len(b) > m.room():
		return api.ErrFull
	}
	e := m.spend()
	if e == api.OK {
		for _, c := range b {
			m.files[i] = append(m.files[i], cell{b: c})
		}
	}
	return e
}

func (m *model) settle(i int) {
	for k := range m.files[i] {
		m.files[i][k].sure = true
	}
}

func (m *model) sync(i int) api.Errno {
	switch {
	case m.dead:
		return api.ErrDown
	case !m.has(i):
		return api.ErrArg
	}
	e := m.spend()
	if e == api.OK {
		m.settle(i)
	}
	return e
}

func (m *model) cut(i, n int) api.Errno {
	switch {
	case m.dead:
		return api.ErrDown
	case !m.has(i), n < 0, n > len(m.files[i]):
		return api.ErrArg
	}
	e := m.spend()
	if e == api.OK {
		m.files[i] = m.files[i][:n]
		m.settle(i)
	}
	return e
}

func (m *model) grow(n int) api.Errno {
	if n < 0 || n > 1<<20 || m.room()+n > 1<<20 {
		return api.ErrArg
	}
	m.said += n
	return api.OK
}

func (m *model) arm(n int) api.Errno {
	if m.dead {
		return api.ErrDown
	}
	m.armed, m.fuse = n >= 0, n
	return api.OK
}

func (m *model) crash(keep []int) api.Errno {
	for i, f := range m.files {
		left := 0
		if i < len(keep) {
			left = keep[i]
		}
		var rest []cell
		for _, c := range f {
			if !c.sure && left < 1 {
				break
			}
			if !c.sure {
				left--
			}
			rest = append(rest, cell{c.b, true})
		}
		m.files[i] = rest
	}
	m.armed, m.dead = false, false
	return api.OK
}

func (m *model) copy() *model {
	c := *m
	c.files = make([][]cell, len(m.files))
	for i, f := range m.files {
		c.files[i] = slices.Clone(f)
	}
	return &c
}

func (m *model) read(i int) string {
	if !m.has(i) {
		return ""
	}
	var b []byte
	for _, c := range m.files[i] {
		b = append(b, c.b)
	}
	return string(b)
}

func (m *model) synced(i int) int {
	n := 0
	if m.has(i) {
		for _, c := range m.files[i] {
			if c.sure {
				n++
			}
		}
	}
	return n
}

// check holds all that a disk tells against the second reckoning.
func check(t *testing.T, d *Disk, m *model) {
	t.Helper()
	if d.Files() != len(m.files) || d.Room() != m.room() || d.Down() != m.dead {
		t.Fatalf("%d files, room %d, down %v; want %d, %d, %v", d.Files(), d.Room(), d.Down(), len(m.files), m.room(), m.dead)
	}
	for i := -1; i <= len(m.files); i++ {
		if b, n := string(d.Read(i)), d.Synced(i); b != m.read(i) || n != m.synced(i) {
			t.Fatalf("file %d: %q, %d synced; want %q, %d", i, b, n, m.read(i), m.synced(i))
		}
	}
}

// checkFuse holds the fuse against the second reckoning, by a copy that is used till the power goes.
func checkFuse(t *testing.T, d *Disk, m *model) {
	t.Helper()
	d, m = d.Copy(), m.copy()
	for k := range 12 {
		if e, want := d.Sync(0), m.sync(0); e != want {
			t.Fatalf("call %d: %d, want %d", k, e, want)
		}
	}
	check(t, d, m)
}

// step is a call of both, and the answers of both.
type step struct {
	name string
	do   func(d *Disk, m *model) (api.Errno, api.Errno)
}

func doAppend(i int, b string) step {
	return step{"Append", func(d *Disk, m *model) (api.Errno, api.Errno) {
		return d.Append(i, []byte(b)), m.append(i, []byte(b))
	}}
}

func doSync(i int) step {
	return step{"Sync", func(d *Disk, m *model) (api.Errno, api.Errno) { return d.Sync(i), m.sync(i) }}
}

func doCut(i, n int) step {
	return step{"Cut", func(d *Disk, m *model) (api.Errno, api.Errno) { return d.Cut(i, n), m.cut(i, n) }}
}

func doGrow(n int) step {
	return step{"Grow", func(d *Disk, m *model) (api.Errno, api.Errno) { return d.Grow(n), m.grow(n) }}
}

func doArm(n int) step {
	return step{"Arm", func(d *Disk, m *model) (api.Errno, api.Errno) { return d.Arm(n), m.arm(n) }}
}

func doCrash(keep ...int) step {
	return step{"Crash", func(d *Disk, m *model) (api.Errno, api.Errno) { return d.Crash(keep), m.crash(keep) }}
}

// take does a step, and holds answers and disk against the second reckoning.
func take(t *testing.T, d *Disk, m *model, s step) {
	t.Helper()
	if e, want := s.do(d, m); e != want {
		t.Fatalf("%s: %d, want %d", s.name, e, want)
	}
	check(t, d, m)
}

// P7.1 to P7.5: all ways of some calls behind one another, each way gone on a copy of its own.
func TestAllWays(t *testing.T) {
	steps := []step{
		doAppend(0, "a"), doAppend(0, "bcd"), doAppend(1, "xy"), doAppend(1, ""), doAppend(2, "n"),
		doSync(0), doSync(1), doSync(-1),
		doCut(0, 0), doCut(0, 1), doCut(1, 2), doCut(0, -1),
		doGrow(2), doGrow(-1), doGrow(1 << 20),
		doArm(0), doArm(1), doArm(-1),
		doCrash(), doCrash(1), doCrash(0, 1), doCrash(-1, 9, 9),
	}
	var walk func(d *Disk, m *model, deep int)
	walk = func(d *Disk, m *model, deep int) {
		for _, s := range steps {
			c, w := d.Copy(), m.copy()
			take(t, c, w, s)
			if deep > 1 {
				walk(c, w, deep-1)
			} else {
				checkFuse(t, c, w)
			}
		}
		check(t, d, m) // the copies have turned nothing of it
	}
	d, e := New(2, 4)
	if e != api.OK {
		t.Fatal(e)
	}
	walk(d, expectNew(2, 4), 4)
}

// randomStep is any call, mostly such as may be done.
func randomStep(r *rand.Rand, files int) step {
	number := func(n int) int {
		if r.Intn(20) == 0 {
			return []int{math.MinInt, -1, n, n + 1, math.MaxInt}[r.Intn(5)]
		}
		return r.Intn(max(n, 1))
	}
	switch i := number(files); r.Intn(12) {
	case 0, 1, 2, 3:
		b := make([]byte, r.Intn(9))
		r.Read(b)
		return doAppend(i, string(b))
	case 4, 5, 6:
		return doSync(i)
	case 7:
		return doCut(i, number(12))
	case 8:
		return doGrow(number(20))
	case 9:
		return doArm(number(30) - r.Intn(2)*15)
	default:
		keep := make([]int, r.Intn(files+3))
		for k := range keep {
			keep[k] = number(8) - r.Intn(3)
		}
		return doCrash(keep...)
	}
}

// P7.1 to P7.5: long runs of any calls, on the disk or on a copy of it.
func TestAnyCalls(t *testing.T) {
	r := rand.New(rand.NewSource(7))
	for range 400 {
		files, room := 1+r.Intn(5), r.Intn(100)
		d, e := New(files, room)
		m := expectNew(files, room)
		if e != api.OK {
			t.Fatal(e)
		}
		for range 200 {
			if r.Intn(10) == 0 {
				old, was := d, m
				d, m = d.Copy(), m.copy()
				take(t, old, was, randomStep(r, files))
				check(t, d, m)
			}
			take(t, d, m, randomStep(r, files))
		}
		checkFuse(t, d, m)
	}
}
