package oracle

import (
	"bytes"
	"math/rand"
	"slices"
	"strings"
	"testing"

	"argosy/api"
)

// The second reckoning reads a script as letters: each byte is written as its eight bits, and an item's byte is what is cut out of that text.

func letters(s []byte) string {
	var t strings.Builder
	for _, b := range s {
		for bit := 7; bit >= 0; bit-- {
			t.WriteByte('0' + b>>bit&1)
		}
	}
	return t.String()
}

// said tells whether an item fails, and how often it slips.
func said(text string, item int) (bool, int) {
	if item < 0 || item >= len(text)/8 {
		return false, 0
	}
	b := text[item*8 : item*8+8]
	return b[5] == '1', strings.Index("00 01 10 11", b[6:]) / 3
}

// goes tells whether what is done goes well: the tries that do not are counted off.
func goes(text string, k api.Key) bool {
	fails, slips := said(text, k.Item)
	if !k.Undo {
		return !fails
	}
	for bad := 0; bad < slips; bad++ {
		if k.Try == bad {
			return false
		}
	}
	return k.Try >= 0
}

// tries runs all items' tries, one by one.
func tries(text string, n int) int {
	count := 0
	for i := 0; i < n && i < 64; i++ {
		count++
		if fails, _ := said(text, i); fails {
			continue
		}
		for try := 0; ; try++ {
			count++
			if goes(text, api.Key{Item: i, Undo: true, Try: try}) {
				break
			}
		}
	}
	return count
}

// asks tells whether a script says just what two lists ask for.
func asks(s []byte, fails, slips []int) bool {
	text := letters(s)
	for i := range 64 {
		f, n := said(text, i)
		want := 0
		if i < len(slips) {
			want = slips[i]
		}
		if f != slices.Contains(fails, i) || n != want {
			return false
		}
	}
	return true
}

// scripts are all scripts of up to n bytes with these bytes, the shorter ones first, and of those of a length the lesser ones.
func scripts(n int, of []byte) [][]byte {
	all := [][]byte{{}}
	row := all
	for range n {
		var next [][]byte
		for _, s := range row {
			for _, b := range of {
				next = append(next, append(slices.Clone(s), b))
			}
		}
		all, row = append(all, next...), next
	}
	return all
}

// lists are all lists of up to n of the numbers from..to.
func lists(n, from, to int) [][]int {
	all := [][]int{nil}
	row := all
	for range n {
		var next [][]int
		for _, l := range row {
			for x := from; x <= to; x++ {
				next = append(next, append(slices.Clone(l), x))
			}
		}
		all, row = append(all, next...), next
	}
	return all
}

func may(l []int, from, to int) bool {
	return !slices.ContainsFunc(l, func(x int) bool { return x < from || x > to })
}

func anyLists(r *rand.Rand) ([]int, []int) {
	var fails, slips []int
	for range r.Intn(r.Intn(65) + 1) {
		fails = append(fails, r.Intn(64))
	}
	for range r.Intn(r.Intn(65) + 1) {
		slips = append(slips, r.Intn(4)*r.Intn(2))
	}
	return fails, slips
}

// P19.1, P19.3, P19.5: all scripts of up to four bytes that differ in what they say, and of up to two of any bytes.
func TestReckonScripts(t *testing.T) {
	var any256 []byte
	for b := range 256 {
		any256 = append(any256, byte(b))
	}
	for _, s := range append(scripts(4, []byte{0, 1, 2, 3, 4, 5, 6, 7}), scripts(2, any256)...) {
		expectReckoned(t, s, 6)
	}
}

// P19.1, P19.3, P19.5: scripts of any bytes, of any length.
func TestReckonLong(t *testing.T) {
	r := rand.New(rand.NewSource(191))
	for range 400 {
		s := make([]byte, r.Intn(150))
		r.Read(s)
		expectReckoned(t, s, len(s)+5)
	}
}

func expectReckoned(t *testing.T, s []byte, to int) {
	t.Helper()
	text := letters(s)
	for i := -2; i < to; i++ {
		f, n := said(text, i)
		if Fails(s, i) != f || Slips(s, i) != n {
			t.Fatalf("% x: of %d %v, %d; want %v, %d", s, i, Fails(s, i), Slips(s, i), f, n)
		}
		for try := -2; try < 6; try++ {
			for _, k := range []api.Key{{Item: i, Try: try}, {Item: i, Undo: true, Try: try}} {
				if Ok(s, k) != goes(text, k) {
					t.Fatalf("% x, %v: %v", s, k, Ok(s, k))
				}
			}
		}
		if Most(s, i) != tries(text, i) {
			t.Fatalf("% x, %d: %d; want %d", s, i, Most(s, i), tries(text, i))
		}
	}
}

// P19.2, P19.4: of all short lists, right ones and others, the first one of all scripts that says what is asked for.
func TestReckonMake(t *testing.T) {
	short := scripts(3, []byte{0, 1, 2, 3, 4, 5, 6, 7, 8, 9})
	first := func(fails, slips []int) []byte {
		return short[slices.IndexFunc(short, func(s []byte) bool { return asks(s, fails, slips) })]
	}
	for _, fails := range lists(2, -1, 2) {
		for _, slips := range lists(3, -1, 4) {
			s, e := Make(fails, slips)
			if !may(fails, 0, 63) || !may(slips, 0, 3) {
				if len(s) != 0 || e != api.ErrArg {
					t.Fatalf("%v, %v: % x, %d", fails, slips, s, e)
				}
				continue
			}
			if want := first(fails, slips); !bytes.Equal(s, want) || e != api.OK {
				t.Fatalf("%v, %v: % x, %d; want % x", fails, slips, s, e, want)
			}
		}
	}
}

// P19.2, P19.4: of any lists a script that says what is asked for, without a bit or a byte too many.
func TestReckonMakeLong(t *testing.T) {
	r := rand.New(rand.NewSource(192))
	for range 3000 {
		fails, slips := anyLists(r)
		s := made(t, fails, slips)
		if !asks(s, fails, slips) || len(s) > 64 {
			t.Fatalf("%v, %v: % x", fails, slips, s)
		}
		if n := len(s); n > 0 && asks(s[:n-1], fails, slips) {
			t.Fatalf("%v, %v: % x is too long", fails, slips, s)
		}
		for _, b := range s {
			if b > 7 {
				t.Fatalf("%v, %v: % x is not the least one", fails, slips, s)
			}
		}
	}
}

// P19.2: lists of any numbers near the edges, each of which may be wrong.
func TestReckonMakeWrong(t *testing.T) {
	r := rand.New(rand.NewSource(193))
	for range 5000 {
		fails, slips := anyLists(r)
		if r.Intn(2) == 0 {
			fails = append(fails, r.Intn(6)+60)
		}
		if r.Intn(2) == 0 {
			slips = append(slips, r.Intn(7)-1)
		}
		if r.Intn(4) == 0 {
			slips = append(slips, zeros(max(0, r.Intn(4)+62-len(slips)))...)
		}
		wrong := !may(fails, 0, 63) || !may(slips, 0, 3) || len(slips) > 64
		s, e := Make(fails, slips)
		if wrong && (len(s) != 0 || e != api.ErrArg) || !wrong && (!asks(s, fails, slips) || e != api.OK) {
			t.Fatalf("%v, %v: % x, %d", fails, slips, s, e)
		}
	}
}
