package stamp

import (
	"encoding/binary"
	"math"
	"math/big"
	"math/rand"
	"slices"
	"testing"

	"argosy/api"
	"argosy/wire"
)

const (
	top   = 1 << 40
	least = math.MinInt
	most  = math.MaxInt
)

// The second reckoning: of stamps that are made as long as each other by zeros, in integers without an end.

// padded are two stamps made as long as the longer one.
func padded(a, b []int) ([]int, []int) {
	n := max(len(a), len(b))
	return slices.Concat(a, make([]int, n-len(a))), slices.Concat(b, make([]int, n-len(b)))
}

func expectRight(l []int) bool {
	return len(l) > 0 && len(l) < 65 && slices.Min(l) > -1 && slices.Max(l) < top+1
}

func expectAt(l []int, i int) int {
	for branch, n := range l {
		if branch == i {
			return n
		}
	}
	return 0
}

func expectRank(a, b []int) api.Rank {
	a, b = padded(a, b)
	var less, greater int
	for i := range a {
		switch big.NewInt(int64(a[i])).Cmp(big.NewInt(int64(b[i]))) {
		case -1:
			less++
		case 1:
			greater++
		}
	}
	if less == 0 && greater == 0 {
		return api.Same
	}
	if greater == 0 {
		return api.Before
	}
	if less == 0 {
		return api.After
	}
	return api.Beside
}

func expectJoin(a, b []int) []int {
	a, b = padded(a, b)
	for i := range a {
		if b[i] > a[i] {
			a[i] = b[i]
		}
	}
	return a
}

func expectTick(l []int, i int) ([]int, api.Errno) {
	if !expectRight(l) || i < 0 || i > len(l)-1 || l[i] == top {
		return nil, api.ErrArg
	}
	return slices.Concat(l[:i], []int{l[i] + 1}, l[i+1:]), api.OK
}

func expectNext(had, s []int, i int) bool {
	had, s = padded(had, s)
	found := false
	for branch := range had {
		by := new(big.Int).Sub(big.NewInt(int64(s[branch])), big.NewInt(int64(had[branch])))
		if branch == i && by.Cmp(big.NewInt(1)) == 0 {
			found = true
		} else if branch == i || by.Sign() > 0 {
			return false
		}
	}
	return found
}

func expectBytes(l []int) []byte {
	b := binary.AppendUvarint(nil, uint64(len(l)))
	for _, n := range l {
		b = binary.AppendUvarint(b, uint64(n))
	}
	return b
}

func expectRead(b []byte, at int) ([]int, int, api.Errno) {
	l, next, e := wire.Takes(b, at)
	if e == api.OK && !expectRight(l) {
		l, next, e = nil, 0, api.ErrArg
	}
	return l, next, e
}

func checkAt(t *testing.T, l []int, i int) {
	t.Helper()
	if n, want := At(l, i), expectAt(l, i); n != want {
		t.Fatalf("At(%d, %d): %d, want %d", l, i, n, want)
	}
}

func checkRank(t *testing.T, a, b []int) {
	t.Helper()
	if r, want := Rank(a, b), expectRank(a, b); r != want {
		t.Fatalf("Rank(%d, %d): %d, want %d", a, b, r, want)
	}
}

func checkJoin(t *testing.T, a, b []int) {
	t.Helper()
	if l, want := Join(a, b), expectJoin(a, b); !slices.Equal(l, want) {
		t.Fatalf("Join(%d, %d): %d, want %d", a, b, l, want)
	}
}

func checkTick(t *testing.T, l []int, i int) {
	t.Helper()
	got, e := Tick(l, i)
	if want, wantE := expectTick(l, i); !slices.Equal(got, want) || e != wantE {
		t.Fatalf("Tick(%d, %d): %d, %d; want %d, %d", l, i, got, e, want, wantE)
	}
}

func checkNext(t *testing.T, had, s []int, i int) {
	t.Helper()
	if got, want := Next(had, s, i), expectNext(had, s, i); got != want {
		t.Fatalf("Next(%d, %d, %d): %t, want %t", had, s, i, got, want)
	}
}

func checkRead(t *testing.T, b []byte, at int) {
	t.Helper()
	l, next, e := Read(b, at)
	if want, wantNext, wantE := expectRead(b, at); !slices.Equal(l, want) || next != wantNext || e != wantE {
		t.Fatalf("Read(%x, %d): %d, %d, %d; want %d, %d, %d", b, at, l, next, e, want, wantNext, wantE)
	}
}

// refusedTick looks that no stamp is told beside ErrArg.
func refusedTick(t *testing.T, l []int, i int) {
	t.Helper()
	if got, e := Tick(l, i); len(got) != 0 || e != api.ErrArg {
		t.Errorf("Tick(%d, %d): %d, %d; want none, ErrArg", l, i, got, e)
	}
}

// refusedBytes looks that no bytes are told beside ErrArg.
func refusedBytes(t *testing.T, out []byte, l []int) {
	t.Helper()
	if b, e := Bytes(out, l); len(b) != 0 || e != api.ErrArg {
		t.Errorf("Bytes(%x, %d): %x, %d; want none, ErrArg", out, l, b, e)
	}
}

// refusedRead looks that neither a stamp nor a place is told beside an error.
func refusedRead(t *testing.T, b []byte, at int, want api.Errno) {
	t.Helper()
	if l, next, e := Read(b, at); len(l) != 0 || next != 0 || e != want {
		t.Errorf("Read(%x, %d): %d, %d, %d; want %d", b, at, l, next, e, want)
	}
}

// lists are all lists of from none to so many counts, each one of some.
func lists(count int, some ...int) [][]int {
	all, last := [][]int{nil}, [][]int{nil}
	for range count {
		var longer [][]int
		for _, l := range last {
			for _, n := range some {
				longer = append(longer, slices.Concat(l, []int{n}))
			}
		}
		all, last = append(all, longer...), longer
	}
	return all
}

// branches are numbers of branches that there are, and of such that there are not; of many of these one would be there if bits of them were lost.
func branches(count int) []int {
	l := []int{least, least + 1, -1 << 32, -1<<32 + 1, -count, -2, 1 << 31, 1 << 32, 1<<32 + 1, most - 1, most}
	for i := -1; i <= count+1; i++ {
		l = append(l, i)
	}
	return l
}

// rights are right stamps of all lengths, and with all counts, at which something changes.
func rights() [][]int {
	r := rand.New(rand.NewSource(9))
	l := [][]int{{0}, {1}, {127}, {128}, {top - 1}, {top}, {0, 0}, {1, 300}, {top, 0, top}, {0, top}}
	for _, n := range []int{1, 2, 3, 32, 63, 64} {
		last := make([]int, n)
		last[n-1] = top
		l = append(l, make([]int, n), slices.Repeat([]int{top}, n), last, anyStamp(r, n))
	}
	return l
}

// wrongs are stamps that are not right; many would be if bits of them, or counts behind the 64th, were lost.
func wrongs() [][]int {
	l := [][]int{nil, {}, make([]int, 0, 70), make([]int, 65), make([]int, 66), make([]int, 256), make([]int, 257), make([]int, 320), make([]int, 1<<16+1)}
	for _, n := range []int{-1, -2, -128, -1 << 31, -1 << 32, -top, -top - 1, least, least + 1, top + 1, top + 128, 1 << 41, 1 << 42, 1 << 62, most - 1, most} {
		l = append(l, []int{n}, []int{n, 0}, []int{0, n}, []int{3, n, 5}, slices.Concat(make([]int, 63), []int{n}), slices.Concat([]int{n}, make([]int, 63)), slices.Concat([]int{n}, make([]int, 64)))
	}
	return l
}

// anyStamp picks a right stamp; each count of bits is as likely.
func anyStamp(r *rand.Rand, count int) []int {
	l := make([]int, count)
	for i := range l {
		l[i] = r.Intn(1 << r.Intn(41))
	}
	return l
}

// anyLike picks a list that is near another one: some counts of it are one more, or one less, and it may be longer, or shorter.
func anyLike(r *rand.Rand, l []int) []int {
	like := slices.Clone(l)
	for range r.Intn(4) {
		if len(like) > 0 {
			i := r.Intn(len(like))
			like[i] += r.Intn(3) - 1
		}
	}
	switch r.Intn(4) {
	case 0:
		like = like[:r.Intn(len(like)+1)]
	case 1:
		like = append(like, make([]int, r.Intn(5))...)
	case 2:
		like = append(like, r.Intn(3)-1)
	}
	return like
}

// around are bytes that stand ahead of, or behind, a stamp's own.
func around() [][]byte {
	return [][]byte{nil, {}, {0}, {0x80}, {0x7f}, {0xff, 0xff}, {0x80, 0x80, 0x80, 0x80, 0x80, 0x80, 0x80}, []byte("ahead and behind")}
}
