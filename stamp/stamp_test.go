package stamp

import (
	"bytes"
	"math/rand"
	"slices"
	"testing"

	"argosy/api"
)

// P9.1
func TestCheck(t *testing.T) {
	for _, l := range rights() {
		if e := Check(l); e != api.OK {
			t.Errorf("Check(%d): %d", l, e)
		}
	}
	for _, l := range wrongs() {
		if e := Check(l); e != api.ErrArg {
			t.Errorf("Check(%d): %d, want ErrArg", l, e)
		}
	}
	for count := range 130 {
		want := api.OK
		if count < 1 || count > 64 {
			want = api.ErrArg
		}
		if e := Check(make([]int, count)); e != want {
			t.Errorf("%d counts: %d, want %d", count, e, want)
		}
	}
}

// P9.1: each count is looked at, wherever it stands.
func TestCheckEach(t *testing.T) {
	for count := 1; count <= 64; count++ {
		for i := range count {
			for n, want := range map[int]api.Errno{-1: api.ErrArg, 0: api.OK, 1: api.OK, top - 1: api.OK, top: api.OK, top + 1: api.ErrArg} {
				l := make([]int, count)
				l[i] = n
				if e := Check(l); e != want {
					t.Fatalf("Check(%d): %d, want %d", l, e, want)
				}
			}
		}
	}
}

// P9.1
func TestAt(t *testing.T) {
	for i, want := range map[int]int{least: 0, -1 << 32: 0, -3: 0, -1: 0, 0: 4, 1: 5, 2: -6, 3: 0, 4: 0, 1 << 32: 0, 1<<32 + 1: 0, most: 0} {
		if n := At([]int{4, 5, -6}, i); n != want {
			t.Errorf("At(4 5 -6, %d): %d, want %d", i, n, want)
		}
	}
	for _, l := range slices.Concat(rights(), wrongs(), [][]int{{least, most}}) {
		for _, i := range branches(len(l)) {
			if len(l) < 1000 || i < 3 || i > len(l)-3 {
				checkAt(t, l, i)
			}
		}
	}
	// What stands behind a list's end is not among its counts.
	long := []int{7, 8, 9}
	for n := range long {
		for i := range long {
			checkAt(t, long[:n], i)
		}
	}
}

// P9.2: each rank, also where the lengths are unlike, and where what is behind the shorter one's end is 0, more, or less.
func TestRank(t *testing.T) {
	for _, c := range []struct {
		a, b []int
		want api.Rank
	}{
		{nil, nil, api.Same},
		{nil, []int{}, api.Same},
		{[]int{5}, []int{5}, api.Same},
		{[]int{-5, most, least}, []int{-5, most, least}, api.Same},
		{[]int{1}, []int{1, 0}, api.Same},
		{nil, []int{0, 0, 0}, api.Same},
		{[]int{1, 2}, []int{1, 3}, api.Before},
		{[]int{1, 2}, []int{2, 2}, api.Before},
		{[]int{1, 2}, []int{2, 3}, api.Before},
		{[]int{least}, []int{most}, api.Before},
		{[]int{-1}, nil, api.Before},
		{nil, []int{1}, api.Before},
		{[]int{1}, []int{1, 1}, api.Before},
		{[]int{1}, []int{2, 0}, api.Before},
		{[]int{1, 0, -1}, []int{1}, api.Before},
		{[]int{1, least}, []int{1}, api.Before},
		{[]int{0}, []int{1, 0, most}, api.Before},
		{[]int{1, 3}, []int{1, 2}, api.After},
		{[]int{2, 2}, []int{1, 2}, api.After},
		{[]int{most}, []int{least}, api.After},
		{[]int{1}, []int{1, -1}, api.After},
		{[]int{1}, []int{0, 0}, api.After},
		{[]int{1, 0, 1}, []int{1}, api.After},
		{[]int{1, 2}, []int{2, 1}, api.Beside},
		{[]int{most, least}, []int{least, most}, api.Beside},
		{[]int{2}, []int{1, 1}, api.Beside},
		{[]int{1}, []int{2, -1}, api.Beside},
		{[]int{0, 1}, []int{1}, api.Beside},
		{[]int{2, -1}, []int{1}, api.Beside},
		{nil, []int{-1, 1}, api.Beside},
		{[]int{least, most}, nil, api.Beside},
	} {
		if r := Rank(c.a, c.b); r != c.want {
			t.Errorf("Rank(%d, %d): %d, want %d", c.a, c.b, r, c.want)
		}
		checkRank(t, c.a, c.b)
		checkRank(t, c.b, c.a)
		checkJoin(t, c.a, c.b)
	}
}

// P9.2: the one branch of which the counts are unlike may be any.
func TestRankEach(t *testing.T) {
	for _, count := range []int{1, 2, 63, 64, 65, 300} {
		l := slices.Repeat([]int{3}, count)
		for i := range count {
			more := slices.Clone(l)
			more[i]++
			if a, b := Rank(l, more), Rank(more, l); a != api.Before || b != api.After {
				t.Fatalf("branch %d of %d: %d, %d", i, count, a, b)
			}
			for k := range i {
				other := slices.Clone(l)
				other[k]++
				if a, b := Rank(other, more), Rank(more, other); a != api.Beside || b != api.Beside {
					t.Fatalf("branches %d and %d of %d: %d, %d", k, i, count, a, b)
				}
			}
		}
	}
}

// P9.2
func TestJoin(t *testing.T) {
	for _, c := range []struct{ a, b, want []int }{
		{nil, nil, nil},
		{nil, []int{}, nil},
		{nil, []int{0}, []int{0}},
		{nil, []int{3, 0}, []int{3, 0}},
		{nil, []int{-3}, []int{0}},
		{[]int{1}, []int{0, least, most}, []int{1, 0, most}},
		{[]int{1, 5}, []int{2, 3}, []int{2, 5}},
		{[]int{1, 5, 0}, []int{2}, []int{2, 5, 0}},
		{[]int{1, 5, -1}, []int{2, 7}, []int{2, 7, 0}},
		{[]int{least, most}, []int{most, least}, []int{most, most}},
		{[]int{least}, []int{least}, []int{least}},
		{[]int{-1, -2}, []int{-2, -1}, []int{-1, -1}},
	} {
		for _, pair := range [][2][]int{{c.a, c.b}, {c.b, c.a}} {
			if l := Join(pair[0], pair[1]); !slices.Equal(l, c.want) {
				t.Errorf("Join(%d, %d): %d, want %d", pair[0], pair[1], l, c.want)
			}
		}
	}
}

// P9.3
func TestTick(t *testing.T) {
	for _, l := range slices.Concat(rights(), wrongs()) {
		for _, i := range branches(min(len(l), 70)) {
			checkTick(t, l, i)
		}
	}
	for _, c := range []struct {
		l    []int
		i    int
		want []int
	}{
		{[]int{0}, 0, []int{1}},
		{[]int{1, 2}, 0, []int{2, 2}},
		{[]int{1, 2}, 1, []int{1, 3}},
		{[]int{top - 1}, 0, []int{top}},
		{[]int{top, 5, top}, 1, []int{top, 6, top}},
		{make([]int, 64), 63, append(make([]int, 63), 1)},
	} {
		if l, e := Tick(c.l, c.i); !slices.Equal(l, c.want) || e != api.OK {
			t.Errorf("Tick(%d, %d): %d, %d; want %d", c.l, c.i, l, e, c.want)
		}
	}
}

// P9.3
func TestTickWrong(t *testing.T) {
	for _, l := range wrongs() {
		for _, i := range branches(min(len(l), 70)) {
			refusedTick(t, l, i)
		}
	}
	for _, i := range []int{least, -1 << 32, -2, -1, 2, 3, 1 << 32, 1<<32 + 1, most} {
		refusedTick(t, []int{1, 2}, i)
	}
	// Room behind the last count is no branch.
	refusedTick(t, append(make([]int, 0, 9), 1, 2), 2)
	refusedTick(t, make([]int, 64), 64)
	refusedTick(t, []int{top}, 0)
	refusedTick(t, []int{0, top, 0}, 1)
	refusedTick(t, slices.Repeat([]int{top}, 64), 63)
	// A stamp is no more right for the one that is ticked.
	refusedTick(t, []int{1, -1}, 0)
	refusedTick(t, []int{-1, 1}, 0)
	refusedTick(t, []int{1, top + 1}, 0)
}

// P9.3
func TestNext(t *testing.T) {
	for _, c := range []struct {
		had, s []int
		i      int
		want   bool
	}{
		{[]int{1, 2}, []int{2, 2}, 0, true},
		{[]int{1, 2}, []int{1, 3}, 1, true},
		{[]int{1, 2}, []int{2, 1}, 0, true},
		{[]int{1, 2}, []int{2, least}, 0, true},
		{nil, []int{1}, 0, true},
		{nil, []int{0, 0, 1}, 2, true},
		{nil, []int{-1, 1}, 1, true},
		{[]int{1, 2}, []int{2}, 0, true},
		{[]int{1}, []int{2, 0}, 0, true},
		{[]int{1}, []int{2, -1}, 0, true},
		{[]int{5, -1}, []int{5}, 1, true},
		{[]int{-1}, nil, 0, true},
		{[]int{least}, []int{least + 1}, 0, true},
		{[]int{most - 1}, []int{most}, 0, true},
		{[]int{most, 0}, []int{most, 1}, 1, true},
		{[]int{top}, []int{top + 1}, 0, true},
		// The count is another one.
		{[]int{1}, []int{1}, 0, false},
		{[]int{1}, []int{3}, 0, false},
		{[]int{1}, []int{0}, 0, false},
		{[]int{1}, nil, 0, false},
		{nil, []int{2}, 0, false},
		{nil, []int{0}, 0, false},
		{nil, nil, 0, false},
		{[]int{least}, []int{most}, 0, false},
		// Nothing is one more than the greatest int.
		{[]int{most}, []int{least}, 0, false},
		{[]int{most}, []int{most}, 0, false},
		{[]int{most}, nil, 0, false},
		{[]int{0, most}, []int{0, least}, 1, false},
		// Another count is greater.
		{[]int{1, 2}, []int{2, 3}, 0, false},
		{[]int{1, 2}, []int{2, 3}, 1, false},
		{[]int{1, 2, 3}, []int{1, 3, 4}, 1, false},
		{[]int{1}, []int{2, 1}, 0, false},
		{[]int{1, -1}, []int{2}, 0, false},
		{[]int{1, least}, []int{2, most}, 0, false},
		{nil, []int{1, 1}, 0, false},
		{nil, []int{1, 1}, 1, false},
		// There is no such branch.
		{[]int{1}, []int{2}, -1, false},
		{[]int{1}, []int{1}, -1, false},
		{[]int{1}, []int{2}, 1, false},
		{[]int{1}, []int{1}, 1, false},
		{[]int{1}, []int{1}, most, false},
		{[]int{1}, []int{2}, least, false},
		{[]int{1}, []int{2}, 1 << 32, false},
		{nil, nil, -1, false},
	} {
		if got := Next(c.had, c.s, c.i); got != c.want {
			t.Errorf("Next(%d, %d, %d): %t", c.had, c.s, c.i, got)
		}
		checkNext(t, c.had, c.s, c.i)
	}
}

// P9.3: a tick is the next one of its branch alone.
func TestNextOfTick(t *testing.T) {
	for _, l := range rights() {
		for i := range l {
			ticked, e := Tick(l, i)
			if e != api.OK {
				continue
			}
			for _, k := range branches(len(l)) {
				if got := Next(l, ticked, k); got != (k == i) {
					t.Fatalf("Next(%d, %d, %d): %t", l, ticked, k, got)
				}
				if Next(ticked, l, k) {
					t.Fatalf("Next(%d, %d, %d): true", ticked, l, k)
				}
			}
		}
	}
}

// P9.2, P9.3: all pairs of short lists of the numbers at which something changes.
func TestPairs(t *testing.T) {
	for _, some := range [][][]int{lists(3, least, -1, 0, 1, most), lists(2, least, least+1, -2, -1, 0, 1, 2, top, top+1, most-1, most)} {
		for _, a := range some {
			for _, b := range some {
				checkRank(t, a, b)
				checkJoin(t, a, b)
				for i := -1; i <= 3; i++ {
					checkNext(t, a, b, i)
				}
			}
		}
	}
}

// P9.1 to P9.3: long lists that are near one another.
func TestAny(t *testing.T) {
	r := rand.New(rand.NewSource(93))
	for range 5000 {
		a := anyStamp(r, r.Intn(70))
		b := anyLike(r, a)
		for _, i := range branches(r.Intn(70)) {
			checkAt(t, a, i)
			checkTick(t, a, i)
			checkNext(t, a, b, i)
		}
		checkRank(t, a, b)
		checkRank(t, b, a)
		checkJoin(t, a, b)
		checkJoin(t, b, a)
	}
}

// P9.4
func TestBytes(t *testing.T) {
	for _, l := range rights() {
		for _, out := range around() {
			for _, spare := range []int{0, 1, 2, 2000} {
				given := append(make([]byte, 0, len(out)+spare), out...)
				if b, e := Bytes(given, l); e != api.OK || !bytes.Equal(b, slices.Concat(out, expectBytes(l))) {
					t.Fatalf("Bytes(%x, %d): %x, %d", out, l, b, e)
				}
			}
		}
	}
	for _, c := range []struct {
		l    []int
		want string
	}{
		{[]int{0}, "\x01\x00"},
		{[]int{1, 300}, "\x02\x01\xac\x02"},
		{[]int{top, 127}, "\x02\x80\x80\x80\x80\x80\x20\x7f"},
		{make([]int, 64), "\x40" + string(make([]byte, 64))},
	} {
		if b, e := Bytes([]byte("x"), c.l); string(b) != "x"+c.want || e != api.OK {
			t.Errorf("Bytes(x, %d): %x, %d", c.l, b, e)
		}
	}
}

// P9.4: of what is not right it is ErrArg, though wire might put it, or tell another error.
func TestBytesWrong(t *testing.T) {
	for _, l := range wrongs() {
		for _, out := range around() {
			refusedBytes(t, out, l)
		}
	}
}

// P9.4
func TestRead(t *testing.T) {
	for _, l := range rights() {
		own := expectBytes(l)
		for _, ahead := range around() {
			for _, behind := range around() {
				b, at := slices.Concat(ahead, own, behind), len(ahead)
				if got, next, e := Read(b, at); !slices.Equal(got, l) || next != at+len(own) || e != api.OK {
					t.Fatalf("Read(%x, %d): %d, %d, %d; want %d", b, at, got, next, e, l)
				}
				for _, at := range branches(len(b)) {
					checkRead(t, b, at)
				}
			}
			for end := range own {
				refusedRead(t, slices.Concat(ahead, own[:end]), len(ahead), api.ErrShort)
			}
		}
	}
}

// P9.4
func TestReadErrors(t *testing.T) {
	zeros := func(count int) []byte { return make([]byte, count) }
	for name, c := range map[string]struct {
		b    []byte
		want api.Errno
	}{
		"no bytes":                         {nil, api.ErrShort},
		"a count that ends too early":      {[]byte{0x80}, api.ErrShort},
		"a count alone":                    {[]byte{1}, api.ErrShort},
		"one number of two":                {[]byte{2, 1}, api.ErrShort},
		"a number that ends too early":     {[]byte{1, 0x80}, api.ErrShort},
		"64 numbers, but one":              {append([]byte{64}, zeros(63)...), api.ErrShort},
		"a count that is none":             {[]byte{0x80, 0x00}, api.ErrFormat},
		"a number that is none":            {[]byte{1, 0x80, 0x00}, api.ErrFormat},
		"a number above 2^40":              {[]byte{1, 0x81, 0x80, 0x80, 0x80, 0x80, 0x20}, api.ErrFormat},
		"a second number that is none":     {[]byte{2, 1, 0xff, 0x00}, api.ErrFormat},
		"256 numbers":                      {append([]byte{0x80, 0x02}, zeros(256)...), api.ErrBig},
		"256 numbers that are not there":   {[]byte{0x80, 0x02}, api.ErrBig},
		"no numbers":                       {[]byte{0}, api.ErrArg},
		"no numbers, and others behind":    {[]byte{0, 1, 2}, api.ErrArg},
		"65 numbers":                       {append([]byte{65}, zeros(65)...), api.ErrArg},
		"127 numbers":                      {append([]byte{127}, zeros(127)...), api.ErrArg},
		"255 numbers":                      {append([]byte{0xff, 0x01}, zeros(255)...), api.ErrArg},
		"65 numbers, but one":              {append([]byte{65}, zeros(64)...), api.ErrShort},
		"65 numbers that are not there":    {[]byte{65}, api.ErrShort},
		"65 numbers, the last one is none": {append([]byte{65}, append(zeros(64), 0x80, 0x00)...), api.ErrFormat},
		"255 numbers, the first is none":   {append([]byte{0xff, 0x01, 0x80, 0x00}, zeros(254)...), api.ErrFormat},
	} {
		if _, _, e := Read(c.b, 0); e != c.want {
			t.Errorf("%s: %d, want %d", name, e, c.want)
		}
		for _, ahead := range around() {
			refusedRead(t, slices.Concat(ahead, c.b), len(ahead), c.want)
			// A place that may not be is told ahead of bytes that may not be.
			for _, at := range []int{least, -1, len(c.b) + len(ahead) + 1, most} {
				refusedRead(t, slices.Concat(ahead, c.b), at, api.ErrArg)
			}
		}
	}
}

// P9.4
func TestReadPlaces(t *testing.T) {
	b := []byte{1, 5, 1, 7}
	for at, want := range map[int]api.Errno{least: api.ErrArg, -1 << 32: api.ErrArg, -1: api.ErrArg, 4: api.ErrShort, 5: api.ErrArg, 1 << 32: api.ErrArg, most: api.ErrArg} {
		refusedRead(t, b, at, want)
	}
	for at, want := range map[int]int{0: 5, 2: 7} {
		if l, next, e := Read(b, at); !slices.Equal(l, []int{want}) || next != at+2 || e != api.OK {
			t.Errorf("Read(%x, %d): %d, %d, %d", b, at, l, next, e)
		}
	}
	// What stands behind a list's end is not among its bytes.
	for n := range b {
		for at := -1; at <= len(b)+1; at++ {
			checkRead(t, b[:n], at)
		}
	}
}

// P9.4: stamps that are put one behind the other are read one behind the other, with just their bytes.
func TestBack(t *testing.T) {
	r := rand.New(rand.NewSource(94))
	for range 1000 {
		b := make([]byte, r.Intn(9))
		r.Read(b)
		at := len(b)
		var stamps [][]int
		for range 1 + r.Intn(5) {
			stamps = append(stamps, anyStamp(r, 1+r.Intn(64)))
		}
		for _, l := range stamps {
			var e api.Errno
			if b, e = Bytes(b, l); e != api.OK {
				t.Fatalf("%d is not put: %d", l, e)
			}
		}
		for _, l := range stamps {
			got, next, e := Read(b, at)
			if e != api.OK || !slices.Equal(got, l) || !bytes.Equal(b[at:next], expectBytes(l)) {
				t.Fatalf("%d is read as %d from %x: %d", l, got, b[at:], e)
			}
			at = next
		}
		for range 20 {
			checkRead(t, b, r.Intn(len(b)+3)-1)
		}
	}
}

// turned is a rank of two stamps that are asked the other way round.
func turned(r api.Rank) api.Rank {
	switch r {
	case api.Before:
		return api.After
	case api.After:
		return api.Before
	}
	return r
}

// P9.5
func TestOrder(t *testing.T) {
	for _, some := range [][][]int{lists(3, 0, 1, 2), lists(2, least, -1, 0, 1, most)} {
		met := map[api.Rank]int{}
		for _, a := range some {
			for _, b := range some {
				r := Rank(a, b)
				met[r]++
				if Rank(b, a) != turned(r) {
					t.Fatalf("Rank(%d, %d): %d; turned round %d", a, b, r, Rank(b, a))
				}
				if r != api.Before {
					continue
				}
				for _, c := range some {
					if Rank(b, c) == api.Before && Rank(a, c) != api.Before {
						t.Fatalf("%d is Before %d, that Before %d, but it is %d", a, b, c, Rank(a, c))
					}
				}
			}
			if Rank(a, a) != api.Same {
				t.Fatalf("Rank(%d, itself): %d", a, Rank(a, a))
			}
		}
		if len(met) != 4 {
			t.Fatalf("ranks that were met: %v", met)
		}
	}
}

// P9.6: all that neither stamp has a greater count than is behind the join, or the same.
func TestLeast(t *testing.T) {
	behind := func(r api.Rank) bool { return r == api.Before || r == api.Same }
	for _, some := range [][][]int{lists(3, 0, 1, 2), lists(2, least, -1, 0, 1, most)} {
		for _, a := range some {
			for _, b := range some {
				if len(a) != len(b) {
					continue
				}
				j := Join(a, b)
				if len(j) != len(a) || !behind(Rank(a, j)) || !behind(Rank(b, j)) {
					t.Fatalf("Join(%d, %d): %d", a, b, j)
				}
				for _, c := range some {
					if len(c) == len(a) && behind(Rank(a, c)) && behind(Rank(b, c)) && !behind(Rank(j, c)) {
						t.Fatalf("Join(%d, %d): %d, but %d is behind both, and less", a, b, j, c)
					}
				}
			}
		}
	}
}

// P9.7
func TestTicksAreBehind(t *testing.T) {
	r := rand.New(rand.NewSource(97))
	all := rights()
	for range 200 {
		all = append(all, anyStamp(r, 1+r.Intn(64)))
	}
	for _, l := range all {
		for i, n := range l {
			ticked, e := Tick(l, i)
			if n == top && e == api.ErrArg {
				continue
			}
			if e != api.OK || Rank(l, ticked) != api.Before || Rank(ticked, l) != api.After {
				t.Fatalf("Tick(%d, %d): %d, %d", l, i, ticked, e)
			}
		}
	}
}

// spoil overwrites a list, and what stands behind its end, too.
func spoil[E any](l []E, with E) {
	l = l[:cap(l)]
	for i := range l {
		l[i] = with
	}
}

// What is handed in stays as it was, what stands behind its end, too.
func TestArgumentsStay(t *testing.T) {
	counts := []int{3, 1, 300, top, 0, -1, 5, most, least, 6}
	given := slices.Concat(expectBytes([]int{1, 300, top}), expectBytes([]int{7}), []byte("behind the end of all that is handed in"))
	keptCounts, kept := slices.Clone(counts), slices.Clone(given)
	for n := range counts {
		l := counts[:n]
		Check(l)
		for i := -1; i <= n+1; i++ {
			At(l, i)
			Tick(l, i)
			Next(l, counts[:3], i)
			Next(counts[:3], l, i)
		}
		for k := range counts {
			Rank(l, counts[:k])
			Join(l, counts[:k])
			Rank(l, counts[k:])
			Join(counts[k:], l)
		}
		for end := range given {
			Bytes(given[:end], l)
			for at := -1; at <= end+1; at++ {
				Read(given[:end], at)
			}
		}
		if !bytes.Equal(given, kept) || !slices.Equal(counts, keptCounts) {
			t.Fatalf("with %d counts: %x, %d; was %x, %d", n, given, counts, kept, keptCounts)
		}
	}
}

// answers are what the calls that answer lists tell of a stamp and its bytes.
func answers(l []int, b []byte) ([][]int, [][]byte) {
	ticked, _ := Tick(l, 0)
	read, _, _ := Read(b, 0)
	put, _ := Bytes(b, l)
	return [][]int{Join(l, nil), Join(nil, l), Join(l, l), Join(l, l[:1]), ticked, read}, [][]byte{put}
}

// An answer shares nothing with arguments, nor with other answers.
func TestNewMemory(t *testing.T) {
	stamp := []int{1, 300, top}
	want := [][]int{stamp, stamp, stamp, stamp, {2, 300, top}, stamp}
	l := append(make([]int, 0, 9), stamp...)
	b := append(make([]byte, 0, 100), expectBytes(stamp)...)
	wantBytes := slices.Concat(b, b)
	expect := func(lists [][]int, bytesOf [][]byte) {
		t.Helper()
		for i := range want {
			if !slices.Equal(lists[i], want[i]) {
				t.Fatalf("answer %d: %d, want %d", i, lists[i], want[i])
			}
		}
		if !bytes.Equal(bytesOf[0], wantBytes) {
			t.Fatalf("bytes: %x, want %x", bytesOf[0], wantBytes)
		}
	}
	for n := range want {
		lists, bytesOf := answers(l, b)
		others, otherBytes := answers(l, b)
		spoil(lists[n], -7)
		spoil(bytesOf[0], 0xee)
		expect(others, otherBytes)
		expect(answers(l, b))
	}
	lists, bytesOf := answers(l, b)
	spoil(l, -7)
	spoil(b, 0xee)
	expect(lists, bytesOf)
}

// Examples of the chapter.
func TestExamples(t *testing.T) {
	for _, c := range []struct {
		a, b []int
		want api.Rank
	}{{[]int{1, 2}, []int{1, 3}, api.Before}, {[]int{1, 2}, []int{2, 1}, api.Beside}, {[]int{1}, []int{1, 0}, api.Same}} {
		if r := Rank(c.a, c.b); r != c.want {
			t.Errorf("Rank(%d, %d): %d", c.a, c.b, r)
		}
	}
	if l := Join([]int{1, 5}, []int{2, 3}); !slices.Equal(l, []int{2, 5}) {
		t.Errorf("Join: %d", l)
	}
	if l, e := Tick([]int{1, 2}, 0); !slices.Equal(l, []int{2, 2}) || e != api.OK {
		t.Errorf("Tick: %d, %d", l, e)
	}
	if !Next([]int{1, 2}, []int{2, 1}, 0) || Next([]int{1, 2}, []int{2, 3}, 0) {
		t.Error("Next")
	}
}
