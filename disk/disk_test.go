package disk

import (
	"bytes"
	"math"
	"math/rand"
	"slices"
	"strings"
	"testing"

	"argosy/api"
)

func made(t *testing.T, files, room int) *Disk {
	t.Helper()
	d, e := New(files, room)
	if d == nil || e != api.OK {
		t.Fatalf("New(%d, %d): %d", files, room, e)
	}
	return d
}

func expect(t *testing.T, what string, e, want api.Errno) {
	t.Helper()
	if e != want {
		t.Fatalf("%s: %d, want %d", what, e, want)
	}
}

// show is a disk's files, each with a bar behind what is synced.
func show(d *Disk) string {
	var l []string
	for i := range d.Files() {
		b, n := string(d.Read(i)), d.Synced(i)
		l = append(l, b[:n]+"|"+b[n:])
	}
	return strings.Join(l, " ")
}

func expectShow(t *testing.T, d *Disk, files string, room int) {
	t.Helper()
	if show(d) != files || d.Room() != room {
		t.Fatalf("%q, room %d; want %q, %d", show(d), d.Room(), files, room)
	}
}

// dead is a disk without power: its files are ab|c and |d, its room 2.
func dead(t *testing.T) *Disk {
	t.Helper()
	d := made(t, 2, 6)
	d.Append(0, []byte("ab"))
	d.Sync(0)
	d.Append(0, []byte("c"))
	d.Append(1, []byte("d"))
	d.Arm(0)
	expect(t, "Sync at the fuse's end", d.Sync(0), api.ErrDown)
	return d
}

// P7.1
func TestNew(t *testing.T) {
	for _, files := range []int{math.MinInt, -1 << 32, -1, 0, 1, 2, 64, 65, 66, 67, 1 << 32, 1<<32 + 1, math.MaxInt} {
		for _, room := range []int{math.MinInt, -1 << 32, -1, 0, 1, 1<<20 - 1, 1 << 20, 1<<20 + 1, 1 << 32, math.MaxInt} {
			d, e := New(files, room)
			if files < 1 || files > 65 || room < 0 || room > 1<<20 {
				if d != nil || e != api.ErrArg {
					t.Errorf("New(%d, %d): %v, %d", files, room, d != nil, e)
				}
				continue
			}
			if d == nil || e != api.OK {
				t.Fatalf("New(%d, %d): %d", files, room, e)
			}
			check(t, d, expectNew(files, room))
		}
	}
}

// P7.1: a new disk has no fuse, however often it is used.
func TestNewHasNoFuse(t *testing.T) {
	d := made(t, 1, 0)
	for range 1000 {
		expect(t, "Sync", d.Sync(0), api.OK)
		expect(t, "Append", d.Append(0, nil), api.OK)
		expect(t, "Cut", d.Cut(0, 0), api.OK)
	}
}

// P7.1, P7.2: there are as many files as New was told, each its own.
func TestEachFile(t *testing.T) {
	for _, files := range []int{1, 2, 64, 65} {
		d, m := made(t, files, 1<<20), expectNew(files, 1<<20)
		for i := -2; i < files+2; i++ {
			take(t, d, m, doAppend(i, strings.Repeat(string(rune('0'+i%10)), max(i, 0)%7+1)))
			take(t, d, m, doCut(i, 1))
			take(t, d, m, doAppend(i, "xyz"))
		}
		take(t, d, m, doSync(files-1))
		take(t, d, m, doCrash(slices.Repeat([]int{2}, files)...))
		for _, i := range []int{math.MinInt, -1 << 32, -1, files, files + 1, 65, 66, 1 << 32, math.MaxInt} {
			take(t, d, m, doAppend(i, ""))
			take(t, d, m, doSync(i))
			take(t, d, m, doCut(i, 0))
			if b, n := d.Read(i), d.Synced(i); len(b) != 0 || n != 0 {
				t.Errorf("file %d of %d: %q, %d", i, files, b, n)
			}
		}
	}
}

// P7.1
func TestGrow(t *testing.T) {
	for _, room := range []int{0, 1, 1000, 1<<20 - 1, 1 << 20} {
		left := 1<<20 - room
		for n, want := range map[int]api.Errno{
			math.MinInt: api.ErrArg, -1 << 32: api.ErrArg, -1: api.ErrArg,
			0: api.OK, left: api.OK, left / 2: api.OK,
			left + 1: api.ErrArg, 1<<20 + 1: api.ErrArg, 1 << 32: api.ErrArg,
			math.MaxInt - room: api.ErrArg, math.MaxInt: api.ErrArg,
		} {
			d := made(t, 1, room)
			expect(t, "Grow", d.Grow(n), want)
			if want == api.OK {
				expectShow(t, d, "|", room+n)
			} else {
				expectShow(t, d, "|", room)
			}
		}
	}
}

// P7.1: what counts is the room, not what the files hold; what they give back may lift it above the limit.
func TestGrowBesideFiles(t *testing.T) {
	d := made(t, 1, 1<<20)
	expect(t, "Append", d.Append(0, make([]byte, 1<<20)), api.OK)
	expect(t, "Grow above", d.Grow(1<<20+1), api.ErrArg)
	expect(t, "Grow", d.Grow(1<<20), api.OK)
	expect(t, "Grow by one", d.Grow(1), api.ErrArg)
	expect(t, "Grow by none", d.Grow(0), api.OK)
	expect(t, "Cut", d.Cut(0, 1), api.OK)
	if d.Room() != 1<<21-1 || d.Synced(0) != 1 {
		t.Fatalf("room %d, %d synced", d.Room(), d.Synced(0))
	}
	expect(t, "Grow by none, above the limit", d.Grow(0), api.ErrArg)
	expect(t, "Grow by one, above the limit", d.Grow(1), api.ErrArg)
	expect(t, "Grow by less than none, above the limit", d.Grow(-1<<20), api.ErrArg)
	expect(t, "Append of all", d.Append(0, make([]byte, 1<<21-1)), api.OK)
	expect(t, "Append of one more", d.Append(0, make([]byte, 1)), api.ErrFull)
	expect(t, "Grow again", d.Grow(3), api.OK)
	if d.Room() != 3 || len(d.Read(0)) != 1<<21 {
		t.Fatalf("room %d, %d bytes", d.Room(), len(d.Read(0)))
	}
}

// P7.1: Grow costs nothing of the fuse, and asks for no power.
func TestGrowAndPower(t *testing.T) {
	d := made(t, 1, 0)
	d.Arm(1)
	for range 5 {
		expect(t, "Grow", d.Grow(1), api.OK)
		expect(t, "Grow below 0", d.Grow(-1), api.ErrArg)
	}
	expect(t, "Append", d.Append(0, []byte("abcde")), api.OK)
	expect(t, "Sync", d.Sync(0), api.ErrDown)
	expect(t, "Grow without power", d.Grow(7), api.OK)
	expect(t, "Grow above without power", d.Grow(1<<20-6), api.ErrArg)
	expectShow(t, d, "|abcde", 7)
	if !d.Down() {
		t.Error("Grow has given it power")
	}
}

// P7.2
func TestAppend(t *testing.T) {
	d := made(t, 2, 5)
	expect(t, "of some", d.Append(0, []byte("ab")), api.OK)
	expectShow(t, d, "|ab |", 3)
	expect(t, "of none", d.Append(0, nil), api.OK)
	expect(t, "of none", d.Append(1, []byte{}), api.OK)
	expectShow(t, d, "|ab |", 3)
	expect(t, "of one more than the room", d.Append(1, []byte("wxyz")), api.ErrFull)
	expect(t, "of far more", d.Append(0, make([]byte, 1<<20)), api.ErrFull)
	expectShow(t, d, "|ab |", 3)
	expect(t, "of just the room", d.Append(1, []byte("xyz")), api.OK)
	expectShow(t, d, "|ab |xyz", 0)
	expect(t, "of one more", d.Append(0, []byte("c")), api.ErrFull)
	expect(t, "of none, without room", d.Append(0, nil), api.OK)
	d.Sync(0)
	d.Grow(3)
	expect(t, "behind what is synced", d.Append(0, []byte("\x00\xff")), api.OK)
	expectShow(t, d, "ab|\x00\xff |xyz", 1)
	for _, i := range []int{-1, 2} {
		expect(t, "to no file", d.Append(i, []byte("c")), api.ErrArg)
		expect(t, "of none to no file", d.Append(i, nil), api.ErrArg)
	}
	expectShow(t, d, "ab|\x00\xff |xyz", 1)
}

// P7.2
func TestSync(t *testing.T) {
	d := made(t, 2, 9)
	expect(t, "of nothing", d.Sync(0), api.OK)
	expectShow(t, d, "| |", 9)
	d.Append(0, []byte("abc"))
	d.Append(1, []byte("x"))
	expect(t, "of all", d.Sync(0), api.OK)
	expectShow(t, d, "abc| |x", 5)
	expect(t, "again", d.Sync(0), api.OK)
	expectShow(t, d, "abc| |x", 5)
	d.Append(0, []byte("d"))
	expectShow(t, d, "abc|d |x", 4)
	expect(t, "of what is new", d.Sync(0), api.OK)
	expectShow(t, d, "abcd| |x", 4)
	expect(t, "of no file", d.Sync(-1), api.ErrArg)
	expect(t, "of no file", d.Sync(2), api.ErrArg)
	expectShow(t, d, "abcd| |x", 4)
}

// P7.2
func TestCut(t *testing.T) {
	for _, c := range []struct {
		n     int
		want  api.Errno
		files string
		room  int
	}{
		{math.MinInt, api.ErrArg, "ab|cd |x", 4},
		{-1, api.ErrArg, "ab|cd |x", 4},
		{0, api.OK, "| |x", 8},
		{1, api.OK, "a| |x", 7},
		{2, api.OK, "ab| |x", 6},
		{3, api.OK, "abc| |x", 5},
		{4, api.OK, "abcd| |x", 4},
		{5, api.ErrArg, "ab|cd |x", 4},
		{1 << 32, api.ErrArg, "ab|cd |x", 4},
		{math.MaxInt, api.ErrArg, "ab|cd |x", 4},
	} {
		d := made(t, 2, 9)
		d.Append(0, []byte("ab"))
		d.Sync(0)
		d.Append(0, []byte("cd"))
		d.Append(1, []byte("x"))
		expect(t, "Cut", d.Cut(0, c.n), c.want)
		expectShow(t, d, c.files, c.room)
		for _, i := range []int{-1, 2} {
			expect(t, "Cut of no file", d.Cut(i, 0), api.ErrArg)
		}
		expectShow(t, d, c.files, c.room)
		if c.want == api.OK {
			d.Append(0, []byte("new"))
			expectShow(t, d, strings.Replace(c.files, "|", "|new", 1), c.room-3)
		}
	}
	d := made(t, 1, 0)
	expect(t, "Cut of an empty file to all of it", d.Cut(0, 0), api.OK)
	expect(t, "Cut of an empty file to more", d.Cut(0, 1), api.ErrArg)
}

// P7.2: which error is told where several hold; and that a call that is refused ahead of the fuse leaves it as it was.
func TestErrorsInOrder(t *testing.T) {
	big := make([]byte, 100)
	calls := []struct {
		name string
		do   func(d *Disk) api.Errno
		want api.Errno // with power
	}{
		{"Append to no file", func(d *Disk) api.Errno { return d.Append(2, []byte("x")) }, api.ErrArg},
		{"Append of too much to no file", func(d *Disk) api.Errno { return d.Append(-1, big) }, api.ErrArg},
		{"Append of too much", func(d *Disk) api.Errno { return d.Append(0, big) }, api.ErrFull},
		{"Append of one too much", func(d *Disk) api.Errno { return d.Append(1, big[:3]) }, api.ErrFull},
		{"Sync of no file", func(d *Disk) api.Errno { return d.Sync(2) }, api.ErrArg},
		{"Cut of no file", func(d *Disk) api.Errno { return d.Cut(2, 0) }, api.ErrArg},
		{"Cut of no file below 0", func(d *Disk) api.Errno { return d.Cut(-1, -1) }, api.ErrArg},
		{"Cut below 0", func(d *Disk) api.Errno { return d.Cut(0, -1) }, api.ErrArg},
		{"Cut to more", func(d *Disk) api.Errno { return d.Cut(0, 4) }, api.ErrArg},
		{"Append", func(d *Disk) api.Errno { return d.Append(0, []byte("x")) }, api.OK},
		{"Append of none", func(d *Disk) api.Errno { return d.Append(0, nil) }, api.OK},
		{"Append of just the room", func(d *Disk) api.Errno { return d.Append(0, big[:2]) }, api.OK},
		{"Sync", func(d *Disk) api.Errno { return d.Sync(1) }, api.OK},
		{"Cut", func(d *Disk) api.Errno { return d.Cut(0, 1) }, api.OK},
		{"Cut to all", func(d *Disk) api.Errno { return d.Cut(0, 3) }, api.OK},
	}
	for _, c := range calls {
		down := dead(t)
		expect(t, c.name+" without power", c.do(down), api.ErrDown)
		expectShow(t, down, "ab|c |d", 2)
		able := dead(t)
		able.Crash([]int{1, 1})
		expect(t, c.name+" with power", c.do(able), c.want)
		armed := dead(t)
		armed.Crash([]int{1, 1})
		armed.Arm(0)
		want := c.want
		if want == api.OK {
			want = api.ErrDown
		}
		expect(t, c.name+" with a fuse of 0", c.do(armed), want)
		expectShow(t, armed, "abc| d|", 2)
		if armed.Down() != (want == api.ErrDown) {
			t.Errorf("%s with a fuse of 0: down %v", c.name, armed.Down())
		}
		if want != api.ErrDown {
			expect(t, c.name+", then Sync", armed.Sync(0), api.ErrDown)
		}
	}
}

// P7.2, P7.4: a call that is refused costs nothing of the fuse, and one that is done costs one.
func TestFuseBurns(t *testing.T) {
	for n := range 6 {
		d := made(t, 2, 4)
		expect(t, "Arm", d.Arm(n), api.OK)
		for k := range n {
			expect(t, "Append to no file", d.Append(2, nil), api.ErrArg)
			expect(t, "Append of too much", d.Append(0, make([]byte, 5)), api.ErrFull)
			expect(t, "Sync of no file", d.Sync(-1), api.ErrArg)
			expect(t, "Cut of no file", d.Cut(2, 0), api.ErrArg)
			expect(t, "Cut to more", d.Cut(0, 9), api.ErrArg)
			expect(t, "Grow below 0", d.Grow(-1), api.ErrArg)
			expect(t, "Grow by none", d.Grow(0), api.OK)
			d.Read(0)
			d.Synced(0)
			d.Copy().Sync(0)
			if d.Room() != 4 || d.Files() != 2 || d.Down() {
				t.Fatalf("room %d, down %v", d.Room(), d.Down())
			}
			expect(t, "a call that is done", []func() api.Errno{
				func() api.Errno { return d.Append(0, nil) },
				func() api.Errno { return d.Sync(1) },
				func() api.Errno { return d.Cut(1, 0) },
			}[k%3](), api.OK)
		}
		expect(t, "at the fuse's end", d.Append(0, []byte("a")), api.ErrDown)
		expectShow(t, d, "| |", 4)
		if !d.Down() {
			t.Error("it is not down")
		}
	}
}

// P7.4
func TestArm(t *testing.T) {
	sync := func(d *Disk, n int) {
		t.Helper()
		for range n {
			expect(t, "Sync", d.Sync(0), api.OK)
		}
	}
	for _, n := range []int{-1, -2, -1 << 32, math.MinInt} {
		d := made(t, 1, 9)
		expect(t, "Arm", d.Arm(0), api.OK)
		expect(t, "Arm below 0", d.Arm(n), api.OK)
		sync(d, 100)
	}
	d := made(t, 1, 9)
	expect(t, "Arm", d.Arm(math.MaxInt), api.OK)
	sync(d, 100)
	expect(t, "Arm anew", d.Arm(3), api.OK)
	sync(d, 1)
	expect(t, "Arm with more", d.Arm(5), api.OK)
	sync(d, 4)
	expect(t, "Arm with less", d.Arm(0), api.OK)
	if d.Down() {
		t.Error("a fuse of 0 alone lets it die")
	}
	expect(t, "Sync", d.Sync(0), api.ErrDown)
	if !d.Down() {
		t.Error("it is not down")
	}
	for _, n := range []int{-1, 0, 1, math.MaxInt} {
		expect(t, "Arm without power", d.Arm(n), api.ErrDown)
	}
	d.Crash(nil)
	sync(d, 100)
}

// P7.3, P7.4: what a disk that is down tells, and what it does not do.
func TestDown(t *testing.T) {
	d := dead(t)
	for range 2 {
		if !d.Down() || d.Files() != 2 {
			t.Fatalf("down %v, %d files", d.Down(), d.Files())
		}
		expectShow(t, d, "ab|c |d", 2)
		if len(d.Read(2)) != 0 || len(d.Read(-1)) != 0 || d.Synced(2) != 0 || d.Synced(-1) != 0 {
			t.Error("of no file")
		}
		expect(t, "Append", d.Append(0, []byte("e")), api.ErrDown)
		expect(t, "Append of none", d.Append(0, nil), api.ErrDown)
		expect(t, "Sync", d.Sync(0), api.ErrDown)
		expect(t, "Cut", d.Cut(0, 0), api.ErrDown)
		expect(t, "Arm", d.Arm(9), api.ErrDown)
		expect(t, "Arm", d.Arm(-1), api.ErrDown)
		c := d.Copy()
		if !c.Down() {
			t.Error("its copy is not down")
		}
		expectShow(t, c, "ab|c |d", 2)
		expect(t, "Sync of the copy", c.Sync(0), api.ErrDown)
		expect(t, "Crash of the copy", c.Crash(nil), api.OK)
		expectShow(t, c, "ab| |", 4)
	}
	expect(t, "Crash", d.Crash([]int{1}), api.OK)
	expectShow(t, d, "abc| |", 3)
	expect(t, "Append", d.Append(0, []byte("e")), api.OK)
	if d.Down() {
		t.Error("it has no power")
	}
}

// P7.4
func TestCrash(t *testing.T) {
	for _, c := range []struct {
		keep  []int
		files string
		room  int
	}{
		{nil, "ab| | gh|", 16},
		{[]int{}, "ab| | gh|", 16},
		{[]int{0, 0, 0}, "ab| | gh|", 16},
		{[]int{-1, math.MinInt, -5}, "ab| | gh|", 16},
		{[]int{1}, "abc| | gh|", 15},
		{[]int{0, 1}, "ab| e| gh|", 15},
		{[]int{0, -1, 7}, "ab| | gh|", 16},
		{[]int{2, 2, 2}, "abcd| ef| gh|", 12},
		{[]int{1, 1, 1}, "abc| e| gh|", 14},
		{[]int{3, 9, 9}, "abcd| ef| gh|", 12},
		{[]int{math.MaxInt, math.MaxInt, math.MaxInt}, "abcd| ef| gh|", 12},
		{[]int{math.MaxInt - 1, 1 << 32}, "abcd| ef| gh|", 12},
		{[]int{2, 1, 0, 5, 5, 5, 5}, "abcd| e| gh|", 13},
		{slices.Repeat([]int{1}, 100), "abc| e| gh|", 14},
	} {
		for _, fuse := range []int{-1, 1, 0} {
			for _, down := range []bool{false, true} {
				d := made(t, 3, 20)
				d.Append(0, []byte("ab"))
				d.Sync(0)
				d.Append(0, []byte("cd"))
				d.Append(1, []byte("ef"))
				d.Append(2, []byte("gh"))
				d.Sync(2)
				if down {
					d.Arm(0)
					d.Sync(1)
				}
				d.Arm(fuse)
				keep := slices.Clone(c.keep)
				expect(t, "Crash", d.Crash(keep), api.OK)
				expectShow(t, d, c.files, c.room)
				if d.Down() || !slices.Equal(keep, c.keep) {
					t.Fatalf("Crash(%v): down %v", c.keep, d.Down())
				}
				// There is no fuse, and a second crash finds nothing to take.
				for range 5 {
					expect(t, "Sync", d.Sync(0), api.OK)
				}
				expect(t, "Crash again", d.Crash(nil), api.OK)
				expectShow(t, d, c.files, c.room)
			}
		}
	}
}

// P7.4: what is appended behind a crash stands behind what it left, and nothing comes back of what was lost.
func TestAppendBehindCrash(t *testing.T) {
	d := made(t, 1, 20)
	d.Append(0, []byte("abcdef"))
	d.Crash([]int{2})
	d.Append(0, []byte("X"))
	expectShow(t, d, "ab|X", 17)
	d.Append(0, nil)
	d.Crash([]int{9})
	expectShow(t, d, "abX|", 17)
	d.Cut(0, 1)
	d.Append(0, []byte("YZ"))
	expectShow(t, d, "a|YZ", 17)
}

// P7.5
func TestCopy(t *testing.T) {
	build := func() *Disk {
		d := made(t, 2, 20)
		d.Append(0, []byte("ab"))
		d.Sync(0)
		d.Append(0, []byte("cd"))
		d.Append(1, []byte("x"))
		d.Arm(3)
		return d
	}
	for name, turn := range map[string]func(d *Disk){
		"Append": func(d *Disk) { d.Append(0, []byte("ef")) },
		"Sync":   func(d *Disk) { d.Sync(0) },
		"Cut":    func(d *Disk) { d.Cut(0, 1); d.Append(0, []byte("XYZ")) },
		"Grow":   func(d *Disk) { d.Grow(100) },
		"Arm":    func(d *Disk) { d.Arm(0) },
		"fuse":   func(d *Disk) { d.Arm(0); d.Sync(0) },
		"Crash":  func(d *Disk) { d.Crash(nil); d.Append(0, []byte("XYZ")) },
	} {
		for _, copied := range []bool{true, false} {
			d := build()
			c := d.Copy()
			if copied {
				d, c = c, d
			}
			turn(d)
			expectShow(t, c, "ab|cd |x", 15)
			if c.Files() != 2 || c.Down() {
				t.Errorf("%s: %d files, down %v", name, c.Files(), c.Down())
			}
			for range 3 {
				expect(t, name+", then Sync of the other", c.Sync(1), api.OK)
			}
			expect(t, name+", then the fuse of the other", c.Sync(1), api.ErrDown)
		}
	}
}

// P7.5: both go on from where they were, without one another, though there is room behind the bytes of each.
func TestCopiesGoOn(t *testing.T) {
	d := made(t, 1, 1000)
	for range 10 {
		d.Append(0, []byte("abc"))
	}
	all := []*Disk{d, d.Copy(), d.Copy().Copy()}
	for k, c := range all {
		c.Append(0, []byte{byte('0' + k)})
	}
	for k, c := range all {
		if want := strings.Repeat("abc", 10) + string(rune('0'+k)); string(c.Read(0)) != want || c.Room() != 969 {
			t.Errorf("%q, room %d; want %q", c.Read(0), c.Room(), want)
		}
	}
}

// randomDisk is a disk behind some calls, with the most that its files and room may be together.
func randomDisk(t *testing.T, r *rand.Rand) (*Disk, int) {
	files, room := 1+r.Intn(65), r.Intn(500)
	d, m := made(t, files, room), expectNew(files, room)
	for range r.Intn(60) {
		randomStep(r, files).do(d, m)
	}
	return d, m.said
}

func randomKeep(r *rand.Rand, files int) []int {
	keep := make([]int, r.Intn(files+3))
	for i := range keep {
		keep[i] = r.Intn(14) - 3
	}
	return keep
}

// P7.6: what was synced, by Sync, by Cut or by a crash, stands behind any crashes.
func TestSure(t *testing.T) {
	r := rand.New(rand.NewSource(76))
	for range 1000 {
		d, _ := randomDisk(t, r)
		d.Crash(randomKeep(r, d.Files()))
		var sure [][]byte
		for i := range d.Files() {
			d.Append(i, []byte("ab"))
			if r.Intn(2) == 0 {
				d.Sync(i)
			}
			sure = append(sure, d.Read(i)[:d.Synced(i)])
			d.Append(i, []byte("cde"))
		}
		for range 1 + r.Intn(3) {
			if r.Intn(2) == 0 {
				d.Arm(0)
				d.Sync(r.Intn(d.Files()))
			}
			d.Crash(randomKeep(r, d.Files()))
			for i, b := range sure {
				if !bytes.HasPrefix(d.Read(i), b) || d.Synced(i) < len(b) {
					t.Fatalf("file %d: %q, %d synced; was %q", i, d.Read(i), d.Synced(i), b)
				}
			}
		}
	}
}

// P7.7
func TestAhead(t *testing.T) {
	r := rand.New(rand.NewSource(77))
	for range 1000 {
		d, _ := randomDisk(t, r)
		was := d.Copy()
		d.Crash(randomKeep(r, d.Files()))
		for i := range d.Files() {
			if b := d.Read(i); !bytes.HasPrefix(was.Read(i), b) || d.Synced(i) != len(b) || len(b) < was.Synced(i) {
				t.Fatalf("file %d: %q, %d synced; was %q, %d", i, b, d.Synced(i), was.Read(i), was.Synced(i))
			}
		}
	}
}

// P7.8
func TestRoom(t *testing.T) {
	r := rand.New(rand.NewSource(78))
	together := func(d *Disk) int {
		n := d.Room()
		for i := range d.Files() {
			n += len(d.Read(i))
		}
		return n
	}
	for range 300 {
		d, said := randomDisk(t, r)
		for range 30 {
			if n := r.Intn(9); r.Intn(5) == 0 && d.Grow(n) == api.OK {
				said += n
			}
			switch i := r.Intn(d.Files()); r.Intn(6) {
			case 0:
				d.Crash(randomKeep(r, d.Files()))
			case 1:
				d.Cut(i, r.Intn(9))
			case 2:
				d.Sync(i)
			case 3:
				d = d.Copy()
			default:
				d.Append(i, make([]byte, r.Intn(20)))
			}
			if together(d) != said || d.Room() < 0 {
				t.Fatalf("%d together, room %d; said %d", together(d), d.Room(), said)
			}
		}
	}
}

// spoil overwrites a list, and what stands behind its end, too.
func spoil[E any](l []E, with E) {
	l = l[:cap(l)]
	for i := range l {
		l[i] = with
	}
}

// Bytes that are handed in are neither changed nor kept, and those that are read are new memory.
func TestNewMemory(t *testing.T) {
	d := made(t, 2, 1000)
	given := []byte("abcdefgh")
	expect(t, "Append", d.Append(0, given[:3]), api.OK)
	expect(t, "Append", d.Append(0, given[:2]), api.OK)
	expect(t, "Append", d.Append(1, given[:4]), api.OK)
	if string(given) != "abcdefgh" {
		t.Errorf("Append has changed %q", given)
	}
	spoil(given, 'X')
	expectShow(t, d, "|abcab |abcd", 991)
	c := d.Copy()
	for range 2 {
		first, second := d.Read(0), d.Read(0)
		spoil(first, 'X')
		if string(second) != "abcab" {
			t.Errorf("two answers share memory: %q", second)
		}
		spoil(d.Read(1), 'X')
		spoil(c.Read(0), 'X')
		expectShow(t, d, "|abcab |abcd", 991)
		expectShow(t, c, "|abcab |abcd", 991)
	}
	// What was read stays as it is when the disk goes on.
	read := d.Read(0)
	d.Cut(0, 1)
	d.Append(0, []byte("ZZZZZZZZ"))
	c.Crash(nil)
	c.Append(0, []byte("YYYY"))
	if string(read) != "abcab" {
		t.Errorf("%q", read)
	}
	// A file may be appended to itself, and to another one.
	d.Append(1, d.Read(1))
	d.Append(1, d.Read(0))
	expectShow(t, d, "a|ZZZZZZZZ |abcdabcdaZZZZZZZZ", 974)
}

// What keep says is taken in when the power goes, and not looked at later.
func TestKeepIsNotKept(t *testing.T) {
	d := made(t, 2, 20)
	d.Append(0, []byte("abc"))
	d.Append(1, []byte("xyz"))
	keep := []int{1, 2, 3}
	d.Crash(keep[:1])
	if !slices.Equal(keep, []int{1, 2, 3}) {
		t.Errorf("%v", keep)
	}
	expectShow(t, d, "a| |", 19) // what stands behind its end says nothing
	spoil(keep, 9)
	d.Append(0, []byte("d"))
	d.Crash(nil)
	expectShow(t, d, "a| |", 19)
}

// Each call of no disk, and of one that nothing made, answers ErrNil, and zero values.
func TestNoDisk(t *testing.T) {
	for name, d := range map[string]*Disk{"no disk": nil, "one that nothing made": {}} {
		for range 2 {
			for _, n := range []int{math.MinInt, -1, 0, 1, 64, 65, math.MaxInt} {
				expect(t, name+": Append", d.Append(n, []byte("a")), api.ErrNil)
				expect(t, name+": Append of none", d.Append(n, nil), api.ErrNil)
				expect(t, name+": Sync", d.Sync(n), api.ErrNil)
				expect(t, name+": Cut", d.Cut(n, n), api.ErrNil)
				expect(t, name+": Cut", d.Cut(0, n), api.ErrNil)
				expect(t, name+": Grow", d.Grow(n), api.ErrNil)
				expect(t, name+": Arm", d.Arm(n), api.ErrNil)
				expect(t, name+": Crash", d.Crash([]int{n}), api.ErrNil)
				if b, k := d.Read(n), d.Synced(n); len(b) != 0 || k != 0 {
					t.Errorf("%s: Read %q, Synced %d", name, b, k)
				}
			}
			expect(t, name+": Crash", d.Crash(nil), api.ErrNil)
			if d.Files() != 0 || d.Room() != 0 || d.Down() || d.Copy() != nil {
				t.Errorf("%s: %d files, room %d, down %v, copy %v", name, d.Files(), d.Room(), d.Down(), d.Copy() != nil)
			}
		}
	}
}

// Disks have nothing in common.
func TestDisksAreTheirOwn(t *testing.T) {
	a, b := made(t, 2, 10), made(t, 2, 10)
	a.Append(0, []byte("abc"))
	a.Arm(0)
	a.Sync(0)
	expectShow(t, b, "| |", 10)
	expect(t, "Sync of the other", b.Sync(0), api.OK)
	if b.Down() {
		t.Error("the other is down, too")
	}
}

// Bytes that are put one by one take a time that grows as they do.
func TestManyAppends(t *testing.T) {
	d := made(t, 1, 1<<20)
	for range 1 << 20 {
		if e := d.Append(0, []byte{'a'}); e != api.OK {
			t.Fatal(e)
		}
	}
	expect(t, "Append of one more", d.Append(0, []byte{'a'}), api.ErrFull)
	if len(d.Read(0)) != 1<<20 || d.Room() != 0 {
		t.Errorf("%d bytes, room %d", len(d.Read(0)), d.Room())
	}
}

// The example of the chapter.
func TestExample(t *testing.T) {
	d := made(t, 2, 9)
	expect(t, "Append 0 abc", d.Append(0, []byte("abc")), api.OK)
	expect(t, "Sync 0", d.Sync(0), api.OK)
	expect(t, "Append 0 de", d.Append(0, []byte("de")), api.OK)
	expect(t, "Append 1 x", d.Append(1, []byte("x")), api.OK)
	expect(t, "Crash(1)", d.Crash([]int{1}), api.OK)
	expectShow(t, d, "abcd| |", 5)
	expect(t, "Arm(1)", d.Arm(1), api.OK)
	expect(t, "Append", d.Append(0, []byte("f")), api.OK)
	expect(t, "Sync", d.Sync(0), api.ErrDown)
}
