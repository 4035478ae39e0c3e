package oracle

import (
	"bytes"
	"math"
	"math/rand"
	"slices"
	"testing"

	"argosy/api"
)

// below0 are numbers below 0, near to it and far from it.
var below0 = []int{math.MinInt, math.MinInt + 1, -1 << 32, -256, -64, -8, -2, -1}

func step(i int) api.Key      { return api.Key{Item: i} }
func undo(i, try int) api.Key { return api.Key{Item: i, Undo: true, Try: try} }

func zeros(n int) []int { return make([]int, n) }

// each is a list of n times the same number.
func each(n, x int) []int { return slices.Repeat([]int{x}, n) }

func upTo(n int) []int {
	var l []int
	for i := range n {
		l = append(l, i)
	}
	return l
}

func made(t testing.TB, fails, slips []int) []byte {
	t.Helper()
	s, e := Make(fails, slips)
	if e != api.OK {
		t.Fatalf("Make(%v, %v): %d", fails, slips, e)
	}
	return s
}

// The examples of the chapter.
func TestExamples(t *testing.T) {
	if s := made(t, []int{2}, nil); string(s) != "\x00\x00\x04" {
		t.Errorf("% x", s)
	}
	if s := made(t, nil, []int{0, 3}); string(s) != "\x00\x03" {
		t.Errorf("% x", s)
	}
	if s := []byte{0, 3}; Ok(s, undo(1, 2)) || !Ok(s, undo(1, 3)) {
		t.Error(Ok(s, undo(1, 2)), Ok(s, undo(1, 3)))
	}
	if n := Most([]byte{0, 7}, 2); n != 3 {
		t.Error(n)
	}
}

// P19.1: of a byte the three lowest bits say something, and the five above them nothing.
func TestBits(t *testing.T) {
	for low, c := range []struct {
		fails bool
		slips int
	}{{false, 0}, {false, 1}, {false, 2}, {false, 3}, {true, 0}, {true, 1}, {true, 2}, {true, 3}} {
		for high := range 32 {
			b := byte(high*8 + low)
			for _, s := range [][]byte{{b}, {b, 0}, {b, 7}, {b, ^b}} {
				if Fails(s, 0) != c.fails || Slips(s, 0) != c.slips || Ok(s, step(0)) == c.fails {
					t.Errorf("% x: %v, %d, %v", s, Fails(s, 0), Slips(s, 0), Ok(s, step(0)))
				}
			}
		}
	}
}

// P19.1: the byte at an item's place alone tells of it.
func TestPlaces(t *testing.T) {
	long := make([]byte, 300)
	for i := range long {
		long[i] = byte(i*11 + i/8)
	}
	for _, n := range []int{0, 1, 2, 3, 63, 64, 65, 299, 300} {
		s := long[:n:n]
		for i, b := range s {
			if Fails(s, i) != (b%8 >= 4) || Slips(s, i) != int(b%4) {
				t.Errorf("%d of %d: %x: %v, %d", i, n, b, Fails(s, i), Slips(s, i))
			}
		}
	}
}

// P19.1: of an item of which the script has no byte it says 0, and of one below 0, too.
func TestNoPlace(t *testing.T) {
	full := bytes.Repeat([]byte{0xff}, 300)
	for _, n := range []int{0, 1, 2, 63, 64, 65, 300} {
		// There is more behind the end of the list, and it says nothing.
		s := full[:n]
		for _, i := range append([]int{n, n + 1, n + 64, n + 256, 1 << 32, math.MaxInt - 1, math.MaxInt}, below0...) {
			if Fails(s, i) || Slips(s, i) != 0 || !Ok(s, step(i)) {
				t.Errorf("%d of %d: %v, %d, %v", i, n, Fails(s, i), Slips(s, i), Ok(s, step(i)))
			}
			if !Ok(s, undo(i, 0)) || !Ok(s, undo(i, 3)) || Ok(s, undo(i, -1)) || Ok(s, undo(i, math.MinInt)) {
				t.Errorf("%d of %d: undone otherwise than of no slips", i, n)
			}
		}
	}
	if Fails(nil, 0) || Slips(nil, 0) != 0 || !Ok(nil, step(0)) || !Ok(nil, api.Key{}) {
		t.Error("of no script")
	}
}

// P19.1: a step goes well if it does not fail, in whichever try, and however often undoing it fails.
func TestOkStep(t *testing.T) {
	for b := range 256 {
		s := []byte{7, byte(b), 7}
		for _, try := range append([]int{0, 1, 2, 3, 4, 64, math.MaxInt}, below0...) {
			if ok := Ok(s, api.Key{Item: 1, Try: try}); ok != (b%8 < 4) {
				t.Errorf("%x, try %d: %v", b, try, ok)
			}
		}
	}
}

// P19.1: undoing goes well from the try on that the item's slips count, and whether its step fails says nothing of that.
func TestOkUndo(t *testing.T) {
	for slips, c := range []struct{ bad, good []int }{
		{nil, []int{0, 1, 2, 3, 4}},
		{[]int{0}, []int{1, 2, 3, 4}},
		{[]int{0, 1}, []int{2, 3, 4}},
		{[]int{0, 1, 2}, []int{3, 4, 5}},
	} {
		for high := range 64 {
			s := []byte{^byte(slips), byte(high*4 + slips), ^byte(slips)}
			for _, try := range append(slices.Clone(c.bad), below0...) {
				if Ok(s, undo(1, try)) {
					t.Errorf("% x: try %d goes well", s, try)
				}
			}
			for _, try := range append(slices.Clone(c.good), 64, 256, 1<<32, math.MaxInt-1, math.MaxInt) {
				if !Ok(s, undo(1, try)) {
					t.Errorf("% x: try %d does not go well", s, try)
				}
			}
		}
	}
}

// P19.2: the least script that says what is asked for.
func TestMake(t *testing.T) {
	for _, c := range []struct {
		fails, slips []int
		want         string
	}{
		{nil, nil, ""},
		{[]int{}, []int{}, ""},
		{nil, []int{0}, ""},
		{nil, []int{0, 0, 0}, ""},
		{nil, []int{1}, "\x01"},
		{nil, []int{3}, "\x03"},
		{nil, []int{0, 1}, "\x00\x01"},
		{nil, []int{2, 0}, "\x02"},
		{nil, []int{3, 2, 1, 0, 0}, "\x03\x02\x01"},
		{nil, []int{0, 1, 0, 2, 0, 3}, "\x00\x01\x00\x02\x00\x03"},
		{[]int{0}, nil, "\x04"},
		{[]int{0, 0, 0}, nil, "\x04"},
		{[]int{1}, nil, "\x00\x04"},
		{[]int{1, 3}, nil, "\x00\x04\x00\x04"},
		{[]int{3, 1}, nil, "\x00\x04\x00\x04"},
		{[]int{2, 0, 1, 2, 0}, nil, "\x04\x04\x04"},
		{[]int{0}, []int{0}, "\x04"},
		{[]int{0}, []int{1}, "\x05"},
		{[]int{0, 0}, []int{3}, "\x07"},
		{[]int{0}, []int{0, 0, 0}, "\x04"},
		{[]int{0}, []int{0, 2}, "\x04\x02"},
		{[]int{0}, []int{2, 0, 1, 0}, "\x06\x00\x01"},
		{[]int{2}, []int{1}, "\x01\x00\x04"},
		{[]int{2}, []int{1, 0, 3}, "\x01\x00\x07"},
		{[]int{2, 1}, []int{3, 2}, "\x03\x06\x04"},
		{[]int{4}, []int{0, 0}, "\x00\x00\x00\x00\x04"},
	} {
		if s := made(t, c.fails, c.slips); string(s) != c.want {
			t.Errorf("%v, %v: % x; want % x", c.fails, c.slips, s, c.want)
		}
	}
}

// P19.2: the last item, and 64 slips, are still told; items may be there any number of times.
func TestMakeGreat(t *testing.T) {
	last := string(make([]byte, 63))
	twice := append(upTo(64), upTo(64)...)
	slices.Reverse(twice)
	for _, c := range []struct {
		fails, slips []int
		want         string
	}{
		{[]int{63}, nil, last + "\x04"},
		{[]int{62}, nil, last[:62] + "\x04"},
		{[]int{63, 63}, zeros(64), last + "\x04"},
		{nil, append(zeros(63), 1), last + "\x01"},
		{nil, append(zeros(62), 2, 0), last[:62] + "\x02"},
		{nil, append([]int{3}, zeros(63)...), "\x03"},
		{nil, zeros(64), ""},
		{nil, each(64, 3), string(bytes.Repeat([]byte{3}, 64))},
		{twice, nil, string(bytes.Repeat([]byte{4}, 64))},
		{twice, each(64, 3), string(bytes.Repeat([]byte{7}, 64))},
		{twice, each(2, 1), "\x05\x05" + string(bytes.Repeat([]byte{4}, 62))},
		{[]int{63}, append(zeros(63), 3), last + "\x07"},
		{[]int{0, 63}, []int{2}, "\x06" + last[1:] + "\x04"},
		{each(5000, 1), nil, "\x00\x04"},
	} {
		if s := made(t, c.fails, c.slips); string(s) != c.want {
			t.Errorf("%v, %v: % x; want % x", c.fails, c.slips, s, c.want)
		}
	}
}

// P19.2: of items and slips that may not be there is no script.
func TestMakeWrong(t *testing.T) {
	for _, c := range []struct{ fails, slips []int }{
		{[]int{-1}, nil},
		{[]int{64}, nil},
		{[]int{65}, nil},
		{[]int{256}, nil},
		{[]int{1 << 32}, nil},
		{[]int{math.MinInt}, nil},
		{[]int{math.MaxInt}, nil},
		{[]int{0, 1, -1}, nil},
		{[]int{-1, 0, 1}, nil},
		{[]int{63, 64, 63}, nil},
		{append(upTo(64), 64), nil},
		{[]int{64}, []int{1, 2}},
		{[]int{-1}, zeros(64)},
		{nil, []int{-1}},
		{nil, []int{4}},
		{nil, []int{5}},
		{nil, []int{8}},
		{nil, []int{256}},
		{nil, []int{-256}},
		{nil, []int{1<<32 + 1}},
		{nil, []int{math.MinInt}},
		{nil, []int{math.MaxInt}},
		{nil, []int{0, 3, 4}},
		{nil, []int{-1, 0, 3}},
		{nil, append(zeros(63), 4)},
		{nil, append(zeros(63), -1)},
		{[]int{0, 1}, []int{0, 4}},
		{nil, zeros(65)},
		{nil, append(zeros(64), 1)},
		{nil, append(zeros(64), 4)},
		{nil, zeros(66)},
		{nil, zeros(5000)},
		{[]int{63}, zeros(65)},
		{[]int{64}, append(zeros(64), -1)},
	} {
		if s, e := Make(c.fails, c.slips); len(s) != 0 || e != api.ErrArg {
			t.Errorf("%v, %v: % x, %d", c.fails, c.slips, s, e)
		}
	}
}

// P19.2: the lists that are handed in stay as they are, and so does what stands behind their ends; each script is new memory.
func TestMakeApart(t *testing.T) {
	for _, c := range []struct{ fails, slips []int }{
		{[]int{3, 1, 1, 0, 9}, []int{0, 2, 0, 0, 9}},
		{[]int{3, 64, 1, 0, 9}, []int{0, 2, 0, 0, 9}},
		{[]int{3, 1, 1, 0, 9}, []int{0, 4, 0, 0, 9}},
	} {
		fails, slips := slices.Clone(c.fails), slices.Clone(c.slips)
		s, e := Make(fails[:4], slips[:4])
		if !slices.Equal(fails, c.fails) || !slices.Equal(slips, c.slips) {
			t.Fatalf("%v, %v: turned to %v, %v", c.fails, c.slips, fails, slips)
		}
		if e != api.OK {
			continue
		}
		want := string(s)
		other := made(t, fails[:4], slips[:4])
		clear(s[:cap(s)])
		clear(fails)
		clear(slips)
		if string(other) != want || want != "\x04\x06\x00\x04" {
			t.Errorf("% x; want % x", other, want)
		}
	}
}

// P19.1, P19.3: a script that is asked stays as it is, and so does what stands behind its end.
func TestAskedApart(t *testing.T) {
	all := []byte{7, 0xff, 0, 3, 0xaa, 0x55}
	s := slices.Clone(all)
	for i := -1; i < 8; i++ {
		Ok(s[:3], step(i))
		Ok(s[:3], undo(i, 1))
		Fails(s[:3], i)
		Slips(s[:3], i)
		Most(s[:3], i)
	}
	if !bytes.Equal(s, all) {
		t.Errorf("% x: turned to % x", all, s)
	}
}

// P19.3: a try of each step, and, unless it fails, one more than its slips.
func TestMost(t *testing.T) {
	for _, c := range []struct {
		s       string
		n, want int
	}{
		{"", 1, 2},
		{"", 5, 10},
		{"\x00", 1, 2},
		{"\x01", 1, 3},
		{"\x02", 1, 4},
		{"\x03", 1, 5},
		{"\x04", 1, 1},
		{"\x05", 1, 1},
		{"\x06", 1, 1},
		{"\x07", 1, 1},
		{"\xf8", 1, 2},
		{"\xfb", 1, 5},
		{"\xfc", 1, 1},
		{"\xff", 1, 1},
		{"\x03\x04", 1, 5},
		{"\x03\x04", 2, 6},
		{"\x03\x04", 3, 8},
		{"\x03\x04", 4, 10},
		{"\x00\x01\x02\x03\x04\x05\x06\x07", 8, 18},
		{"\x00\x01\x02\x03\x04\x05\x06\x07", 7, 17},
		{"\x00\x01\x02\x03\x04\x05\x06\x07", 4, 14},
		{"\x07\x06\x05\x04\x03\x02\x01\x00", 4, 4},
		{"\x07\x06\x05\x04\x03\x02\x01\x00", 9, 20},
	} {
		if n := Most([]byte(c.s), c.n); n != c.want {
			t.Errorf("% x, %d: %d; want %d", c.s, c.n, n, c.want)
		}
	}
}

// P19.3: n below 0 is as 0, and above 64 as 64, however long the script is.
func TestMostEdges(t *testing.T) {
	none := append([]int{0}, below0...)
	above := []int{64, 65, 66, 128, 256, 1 << 32, math.MaxInt - 1, math.MaxInt}
	for _, c := range []struct {
		s     []byte
		whole int
	}{
		{nil, 128},
		{[]byte{3}, 131},
		{[]byte{7}, 127},
		{bytes.Repeat([]byte{3}, 63), 63*5 + 2},
		{bytes.Repeat([]byte{3}, 64), 320},
		{bytes.Repeat([]byte{3}, 65), 320},
		{bytes.Repeat([]byte{3}, 300), 320},
		{bytes.Repeat([]byte{4}, 300), 64},
		{append(bytes.Repeat([]byte{4}, 64), 3, 3), 64},
		{append(bytes.Repeat([]byte{4}, 63), 3, 3), 68},
	} {
		for _, n := range none {
			if m := Most(c.s, n); m != 0 {
				t.Errorf("% x, %d: %d", c.s, n, m)
			}
		}
		for _, n := range above {
			if m := Most(c.s, n); m != c.whole {
				t.Errorf("% x, %d: %d; want %d", c.s, n, m, c.whole)
			}
		}
	}
}

// expectSays holds a script against what it was made of, and all other items against nothing.
func expectSays(t *testing.T, s []byte, fails, slips []int) {
	t.Helper()
	for i := -3; i < 70; i++ {
		want := 0
		if i >= 0 && i < len(slips) {
			want = slips[i]
		}
		if Fails(s, i) != slices.Contains(fails, i) || Slips(s, i) != want {
			t.Fatalf("% x of %v, %v: of %d %v, %d", s, fails, slips, i, Fails(s, i), Slips(s, i))
		}
	}
}

// P19.4: what was made says what it was made of, and of no other item anything.
func TestThereAndBack(t *testing.T) {
	for i := range 64 {
		expectSays(t, made(t, []int{i}, nil), []int{i}, nil)
		for slips := range 4 {
			alone := append(zeros(i), slips)
			expectSays(t, made(t, nil, alone), nil, alone)
			expectSays(t, made(t, []int{i}, alone), []int{i}, alone)
			expectSays(t, made(t, []int{63 - i}, alone), []int{63 - i}, alone)
		}
	}
	r := rand.New(rand.NewSource(194))
	for range 3000 {
		fails, slips := anyLists(r)
		expectSays(t, made(t, fails, slips), fails, slips)
	}
}

// P19.5: undoing goes well at the try 3 and from then on, by any script; and not ahead of the item's slips.
func TestAtLast(t *testing.T) {
	r := rand.New(rand.NewSource(195))
	for n := range 300 {
		s := make([]byte, n)
		r.Read(s)
		for _, i := range append([]int{0, 1, n - 1, n, n + 1, r.Intn(n + 1), math.MaxInt}, below0...) {
			for _, try := range []int{3, 4, 5, 64, 1 << 32, math.MaxInt} {
				if !Ok(s, undo(i, try)) {
					t.Fatalf("% x: the try %d of %d does not go well", s, try, i)
				}
			}
			went := false
			for try := range 4 {
				ok := Ok(s, undo(i, try))
				if ok != (try >= Slips(s, i)) || went && !ok {
					t.Fatalf("% x: the try %d of %d: %v", s, try, i, ok)
				}
				went = ok
			}
		}
	}
}
