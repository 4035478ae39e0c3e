package wire

import (
	"bytes"
	"encoding/binary"
	"math"
	"math/rand"
	"slices"
	"testing"

	"argosy/api"
)

const top = 1 << 40

// The second reckoning: the library's bytes of numbers, and which of them have more than one form, or are too great.

func expectBytes(n int) []byte { return binary.AppendUvarint(nil, uint64(n)) }

func expectList(l []int) []byte {
	b := expectBytes(len(l))
	for _, n := range l {
		b = append(b, expectBytes(n)...)
	}
	return b
}

func expectTake(b []byte, at int) (int, int, api.Errno) {
	if at < 0 || at > len(b) {
		return 0, 0, api.ErrArg
	}
	last := slices.IndexFunc(b[at:], func(c byte) bool { return c < 0x80 })
	if last < 0 && len(b)-at < 6 {
		return 0, 0, api.ErrShort
	}
	if last < 0 || last > 5 {
		return 0, 0, api.ErrFormat
	}
	own := b[at : at+last+1]
	n, _ := binary.Uvarint(own)
	if n > top || !bytes.Equal(own, binary.AppendUvarint(nil, n)) {
		return 0, 0, api.ErrFormat
	}
	return int(n), at + len(own), api.OK
}

func expectTakes(b []byte, at int) ([]int, int, api.Errno) {
	count, at, e := expectTake(b, at)
	if e != api.OK {
		return nil, 0, e
	}
	if count > 255 {
		return nil, 0, api.ErrBig
	}
	var l []int
	for len(l) < count {
		n, next, e := expectTake(b, at)
		if e != api.OK {
			return nil, 0, e
		}
		l, at = append(l, n), next
	}
	return l, at, api.OK
}

// checkTake holds Take against the second reckoning.
func checkTake(t *testing.T, b []byte, at int) {
	t.Helper()
	n, next, e := Take(b, at)
	if want, wantNext, wantE := expectTake(b, at); n != want || next != wantNext || e != wantE {
		t.Fatalf("Take(%x, %d): %d, %d, %d; want %d, %d, %d", b, at, n, next, e, want, wantNext, wantE)
	}
}

// checkTakes holds Takes against the second reckoning.
func checkTakes(t *testing.T, b []byte, at int) {
	t.Helper()
	l, next, e := Takes(b, at)
	if want, wantNext, wantE := expectTakes(b, at); !slices.Equal(l, want) || next != wantNext || e != wantE {
		t.Fatalf("Takes(%x, %d): %d, %d, %d; want %d, %d, %d", b, at, l, next, e, want, wantNext, wantE)
	}
}

// refusedTake looks that neither a number nor a place is told beside an error.
func refusedTake(t *testing.T, b []byte, at int, want api.Errno) {
	t.Helper()
	if n, next, e := Take(b, at); n != 0 || next != 0 || e != want {
		t.Errorf("Take(%x, %d): %d, %d, %d; want %d", b, at, n, next, e, want)
	}
}

// refusedTakes looks that neither a list nor a place is told beside an error.
func refusedTakes(t *testing.T, b []byte, at int, want api.Errno) {
	t.Helper()
	if l, next, e := Takes(b, at); len(l) != 0 || next != 0 || e != want {
		t.Errorf("Takes(%x, %d): %d, %d, %d; want %d", b, at, l, next, e, want)
	}
}

// edgy are numbers of all counts of bytes, with those at which one byte more is needed, and all that have one bit, or all bits up to one.
func edgy() []int {
	l := []int{0, 1, 2, 3, 126, 127, 128, 129, 255, 256, 300, 1<<40 - 1, 1 << 40}
	for bit := range 41 {
		for n := 1<<bit - 2; n <= 1<<bit+2; n++ {
			if n >= 0 && n <= top {
				l = append(l, n)
			}
		}
	}
	return l
}

// wrong are integers that are no numbers; many would be one if bits of them were lost.
func wrong() []int {
	l := []int{-1, -2, -127, -128, -129, -1 << 31, -1 << 32, -1 << 40, -1<<40 - 1, math.MinInt, math.MinInt + 1, 1<<40 + 1, 1<<40 + 127, 1<<40 + 128, 1 << 41, 1<<42 - 1, 1 << 42, 1 << 42 << 7, 1 << 62, math.MaxInt - 1, math.MaxInt}
	for bit := 41; bit < 63; bit++ {
		l = append(l, 1<<bit, 1<<bit+5)
	}
	return l
}

// anyNumber picks a number; each count of bits is as likely.
func anyNumber(r *rand.Rand) int {
	if r.Intn(30) == 0 {
		return top
	}
	return r.Intn(1 << r.Intn(41))
}

func anyList(r *rand.Rand, count int) []int {
	l := make([]int, count)
	for i := range l {
		l[i] = anyNumber(r)
	}
	return l
}

func anyBytes(r *rand.Rand, n int) []byte {
	b := make([]byte, n)
	r.Read(b)
	return b
}

// around are bytes that stand ahead of, or behind, what is put and taken.
func around() [][]byte {
	return [][]byte{nil, {}, {0}, {0x80}, {0x7f}, {0xff, 0xff}, {0x80, 0x80, 0x80, 0x80, 0x80, 0x80, 0x80}, []byte("ahead and behind")}
}

// join is lists' bytes, one behind the other, in new memory.
func join(parts ...[]byte) []byte { return slices.Concat(parts...) }

// byWords is a number's bytes as the chapter's words say them.
func byWords(n int) []byte {
	if n/128 == 0 {
		return []byte{byte(n % 128)}
	}
	return append([]byte{byte(n%128 + 0x80)}, byWords(n/128)...)
}

// P8.1
func TestPut(t *testing.T) {
	for _, n := range edgy() {
		for _, out := range around() {
			for _, spare := range []int{0, 1, 5, 6, 100} {
				given := append(make([]byte, 0, len(out)+spare), out...)
				b, e := Put(given, n)
				if e != api.OK || !bytes.Equal(b, join(out, byWords(n))) || !bytes.Equal(b, join(out, expectBytes(n))) {
					t.Fatalf("Put(%x, %d): %x, %d", out, n, b, e)
				}
			}
		}
	}
	for n := range 1 << 16 {
		if b, e := Put(nil, n); e != api.OK || !bytes.Equal(b, byWords(n)) {
			t.Fatalf("Put(none, %d): %x, %d", n, b, e)
		}
	}
}

// P8.1: where a number has one byte more.
func TestPutLengths(t *testing.T) {
	for n, want := range map[int]int{
		0: 1, 1: 1, 1<<7 - 1: 1,
		1 << 7: 2, 1<<14 - 1: 2,
		1 << 14: 3, 1<<21 - 1: 3,
		1 << 21: 4, 1<<28 - 1: 4,
		1 << 28: 5, 1<<35 - 1: 5,
		1 << 35: 6, 1<<40 - 1: 6, 1 << 40: 6,
	} {
		b, e := Put(nil, n)
		if len(b) != want || e != api.OK {
			t.Errorf("Put(none, %d): %x, %d; want %d bytes", n, b, e, want)
		}
		if x, next, e := Take(b, 0); x != n || next != want || e != api.OK {
			t.Errorf("Take(%x, 0): %d, %d, %d", b, x, next, e)
		}
	}
}

// P8.1
func TestPutWrong(t *testing.T) {
	for _, n := range wrong() {
		for _, out := range around() {
			if b, e := Put(out, n); len(b) != 0 || e != api.ErrArg {
				t.Errorf("Put(%x, %d): %x, %d", out, n, b, e)
			}
		}
	}
}

// P8.1
func TestTake(t *testing.T) {
	for _, n := range edgy() {
		own := expectBytes(n)
		for _, ahead := range around() {
			for _, behind := range around() {
				b, at := join(ahead, own, behind), len(ahead)
				if got, next, e := Take(b, at); got != n || next != at+len(own) || e != api.OK {
					t.Fatalf("Take(%x, %d): %d, %d, %d; want %d", b, at, got, next, e, n)
				}
				for at := -2; at <= len(b)+2; at++ {
					checkTake(t, b, at)
				}
			}
		}
	}
}

// P8.1
func TestTakePlaces(t *testing.T) {
	b := []byte{0xac, 0x02, 0x05}
	for at, want := range map[int]api.Errno{
		math.MinInt: api.ErrArg,
		-1 << 32:    api.ErrArg,
		-1:          api.ErrArg,
		0:           api.OK,
		1:           api.OK,
		2:           api.OK,
		3:           api.ErrShort,
		4:           api.ErrArg,
		1 << 32:     api.ErrArg,
		1<<32 + 2:   api.ErrArg,
		math.MaxInt: api.ErrArg,
	} {
		if _, _, e := Take(b, at); e != want {
			t.Errorf("Take at %d: %d, want %d", at, e, want)
		}
		checkTake(t, b, at)
		checkTakes(t, b, at)
	}
	for _, none := range [][]byte{nil, {}} {
		for at, want := range map[int]api.Errno{-1: api.ErrArg, 0: api.ErrShort, 1: api.ErrArg} {
			refusedTake(t, none, at, want)
			refusedTakes(t, none, at, want)
		}
	}
	// What stands behind a list's end is not among its bytes.
	long := expectBytes(top)
	for n := range long {
		refusedTake(t, long[:n], 0, api.ErrShort)
		refusedTake(t, long[:n], n, api.ErrShort)
		refusedTake(t, long[:n], n+1, api.ErrArg)
		refusedTakes(t, long[:n], n+1, api.ErrArg)
	}
	// A place that may not be is told ahead of bytes that may not be.
	for _, c := range [][]byte{{0x80}, {0x80, 0}, bytes.Repeat([]byte{0xff}, 9)} {
		for _, at := range []int{-1, len(c) + 1} {
			refusedTake(t, c, at, api.ErrArg)
			refusedTakes(t, c, at, api.ErrArg)
		}
	}
}

// P8.1
func TestTakeErrors(t *testing.T) {
	for name, c := range map[string]struct {
		b    []byte
		want api.Errno
	}{
		"no bytes":                                {nil, api.ErrShort},
		"one byte without a last one":             {[]byte{0x80}, api.ErrShort},
		"two bytes without a last one":            {[]byte{0x80, 0x80}, api.ErrShort},
		"three bytes without a last one":          {[]byte{0x80, 0x81, 0xff}, api.ErrShort},
		"four bytes without a last one":           {[]byte{0xff, 0xff, 0xff, 0xff}, api.ErrShort},
		"five bytes without a last one":           {[]byte{0x80, 0x80, 0x80, 0x80, 0x80}, api.ErrShort},
		"five bytes of ones, no last one":         {[]byte{0xff, 0xff, 0xff, 0xff, 0xff}, api.ErrShort},
		"six bytes, nothing behind":               {[]byte{0x80, 0x80, 0x80, 0x80, 0x80, 0x80}, api.ErrFormat},
		"six bytes, a last one behind":            {[]byte{0x80, 0x80, 0x80, 0x80, 0x80, 0x80, 0x01}, api.ErrFormat},
		"six bytes, a 0 behind":                   {[]byte{0x81, 0x80, 0x80, 0x80, 0x80, 0x80, 0x00}, api.ErrFormat},
		"six bytes, more without a last one":      {bytes.Repeat([]byte{0x80}, 7), api.ErrFormat},
		"six bytes of ones, nothing behind":       {bytes.Repeat([]byte{0xff}, 6), api.ErrFormat},
		"six bytes whose first five would fit in": {[]byte{0x81, 0x81, 0x81, 0x81, 0x81, 0x81}, api.ErrFormat},
		"many bytes without a last one":           {bytes.Repeat([]byte{0xff}, 100), api.ErrFormat},
		"ten bytes, as of the greatest integer":   {binary.AppendUvarint(nil, math.MaxUint64), api.ErrFormat},
		"ten bytes with a last one 0":             {append(bytes.Repeat([]byte{0x80}, 9), 0), api.ErrFormat},
		"seven bytes, as of 2^42":                 {binary.AppendUvarint(nil, 1<<42), api.ErrFormat},
		"0 behind one":                            {[]byte{0x80, 0x00}, api.ErrFormat},
		"0 behind one with bits":                  {[]byte{0xff, 0x00}, api.ErrFormat},
		"0 behind two":                            {[]byte{0x80, 0x80, 0x00}, api.ErrFormat},
		"0 behind three":                          {[]byte{0x85, 0x80, 0x81, 0x00}, api.ErrFormat},
		"0 behind four":                           {[]byte{0x80, 0x80, 0x80, 0x80, 0x00}, api.ErrFormat},
		"0 behind five":                           {[]byte{0x80, 0x80, 0x80, 0x80, 0x80, 0x00}, api.ErrFormat},
		"0 behind five with bits":                 {[]byte{0xff, 0xff, 0xff, 0xff, 0xff, 0x00}, api.ErrFormat},
		"2^40 + 1":                                {[]byte{0x81, 0x80, 0x80, 0x80, 0x80, 0x20}, api.ErrFormat},
		"2^40 + 128":                              {[]byte{0x80, 0x81, 0x80, 0x80, 0x80, 0x20}, api.ErrFormat},
		"2^40 + 2^34":                             {[]byte{0x80, 0x80, 0x80, 0x80, 0xc0, 0x20}, api.ErrFormat},
		"2^40 + 2^35":                             {[]byte{0x80, 0x80, 0x80, 0x80, 0x80, 0x21}, api.ErrFormat},
		"2^41":                                    {[]byte{0x80, 0x80, 0x80, 0x80, 0x80, 0x40}, api.ErrFormat},
		"2^42 - 1":                                {[]byte{0xff, 0xff, 0xff, 0xff, 0xff, 0x7f}, api.ErrFormat},
	} {
		if _, _, e := Take(c.b, 0); e != c.want {
			t.Errorf("%s: %d, want %d", name, e, c.want)
		}
		for _, ahead := range around() {
			refusedTake(t, join(ahead, c.b), len(ahead), c.want)
			refusedTakes(t, join(ahead, c.b), len(ahead), c.want)
			// What goes wrong by itself goes wrong with any bytes behind it.
			for _, behind := range around() {
				if c.want == api.ErrFormat {
					refusedTake(t, join(ahead, c.b, behind), len(ahead), c.want)
				}
				checkTake(t, join(ahead, c.b, behind), len(ahead))
			}
		}
	}
	for _, b := range [][]byte{{0}, {0, 0}, {0, 0x80}, {0, 1}} {
		if n, next, e := Take(b, 0); n != 0 || next != 1 || e != api.OK {
			t.Errorf("Take(%x, 0): %d, %d, %d", b, n, next, e)
		}
	}
	for _, c := range []struct {
		b    []byte
		want int
	}{
		{[]byte{0xff, 0xff, 0xff, 0xff, 0xff, 0x1f}, top - 1},
		{[]byte{0x80, 0x80, 0x80, 0x80, 0x80, 0x20}, top},
		{[]byte{0x80, 0x80, 0x80, 0x80, 0x80, 0x01}, 1 << 35},
		{[]byte{0xff, 0xff, 0xff, 0xff, 0x7f}, 1<<35 - 1},
	} {
		if n, next, e := Take(c.b, 0); n != c.want || next != len(c.b) || e != api.OK {
			t.Errorf("Take(%x, 0): %d, %d, %d; want %d", c.b, n, next, e, c.want)
		}
	}
}

// each goes through all lists of so many of some bytes.
func each(some []byte, count int, do func([]byte)) {
	b := make([]byte, count)
	var fill func(int)
	fill = func(at int) {
		if at == count {
			do(b)
			return
		}
		for _, c := range some {
			b[at] = c
			fill(at + 1)
		}
	}
	fill(0)
}

// P8.1, P8.3: all lists of up to seven of the bytes at which something changes.
func TestTakeAll(t *testing.T) {
	for count := range 8 {
		each([]byte{0x00, 0x01, 0x20, 0x7f, 0x80, 0x81, 0xff}, count, func(b []byte) {
			checkTake(t, b, 0)
			if n, next, e := Take(b, 0); e == api.OK {
				if own, e := Put(nil, n); e != api.OK || !bytes.Equal(own, b[:next]) {
					t.Fatalf("Take(%x, 0): %d, whose bytes are %x", b, n, own)
				}
			}
		})
	}
	some := make([]byte, 256)
	for c := range some {
		some[c] = byte(c)
	}
	for count := range 3 {
		each(some, count, func(b []byte) { checkTake(t, b, 0) })
	}
	for c := range 256 { // all last bytes of six
		for _, low := range []byte{0x80, 0x81, 0xff} {
			checkTake(t, []byte{low, 0x80, 0x80, 0x80, 0x80, byte(c)}, 0)
			checkTake(t, []byte{0x80, 0x80, 0x80, 0x80, low, byte(c)}, 0)
		}
	}
}

// lists are such of all lengths at which something changes.
func lists() [][]int {
	r := rand.New(rand.NewSource(8))
	all := [][]int{nil, {}, {0}, {127}, {128}, {top}, {0, 0}, {1, 300}, {top, 0, top}, edgy()[:200]}
	for _, n := range []int{1, 2, 3, 126, 127, 128, 129, 254, 255} {
		all = append(all, make([]int, n), anyList(r, n), slices.Repeat([]int{top}, n))
	}
	return all
}

// P8.2
func TestPuts(t *testing.T) {
	for _, l := range lists() {
		for _, out := range around() {
			for _, spare := range []int{0, 1, 2, 2000} {
				given := append(make([]byte, 0, len(out)+spare), out...)
				if b, e := Puts(given, l); e != api.OK || !bytes.Equal(b, join(out, expectList(l))) {
					t.Fatalf("Puts(%x, %d): %x, %d", out, l, b, e)
				}
			}
		}
	}
	for n, want := range map[int]string{0: "\x00", 1: "\x01", 127: "\x7f", 128: "\x80\x01", 255: "\xff\x01"} {
		b, e := Puts(nil, make([]int, n))
		if e != api.OK || string(b) != want+string(make([]byte, n)) {
			t.Errorf("%d numbers: %x, %d", n, b, e)
		}
	}
}

// P8.2
func TestPutsWrong(t *testing.T) {
	for _, n := range []int{256, 257, 300, 511, 512, 1 << 16, 1 << 20} {
		for _, out := range around() {
			if b, e := Puts(out, make([]int, n)); len(b) != 0 || e != api.ErrBig {
				t.Errorf("%d numbers: %x, %d", n, b, e)
			}
		}
	}
	for _, count := range []int{1, 2, 3, 255} {
		for _, at := range []int{0, count / 2, count - 1} {
			for _, n := range wrong() {
				l := make([]int, count)
				l[at] = n
				if b, e := Puts([]byte("ahead"), l); len(b) != 0 || e != api.ErrArg {
					t.Errorf("%d numbers with %d at %d: %x, %d", count, n, at, b, e)
				}
			}
		}
	}
	// A list that is too long is told ahead of what is no number in it.
	for _, at := range []int{0, 254, 255} {
		l := make([]int, 256)
		l[at] = -1
		if b, e := Puts(nil, l); len(b) != 0 || e != api.ErrBig {
			t.Errorf("256 numbers with -1 at %d: %x, %d", at, b, e)
		}
	}
	// What stands behind a list's end is not of the list.
	l := make([]int, 300)
	l[255] = -1
	if b, e := Puts(nil, l[:255]); e != api.OK || !bytes.Equal(b, expectList(make([]int, 255))) {
		t.Errorf("%x, %d", b, e)
	}
}

// P8.2
func TestTakes(t *testing.T) {
	for _, l := range lists() {
		own := expectList(l)
		for _, ahead := range around() {
			for _, behind := range around() {
				b, at := join(ahead, own, behind), len(ahead)
				if got, next, e := Takes(b, at); !slices.Equal(got, l) || next != at+len(own) || e != api.OK {
					t.Fatalf("Takes(%x, %d): %d, %d, %d; want %d", b, at, got, next, e, l)
				}
			}
		}
		for at := -2; at <= len(own)+2; at++ {
			checkTakes(t, own, at)
		}
	}
}

// P8.2
func TestTakesErrors(t *testing.T) {
	cut, turned, great := []byte{0x80}, []byte{0x80, 0x00}, expectBytes(top+1)
	endless := bytes.Repeat([]byte{0x80}, 6)
	many := func(count, numbers int) []byte { return join(expectBytes(count), make([]byte, numbers)) }
	for name, c := range map[string]struct {
		b    []byte
		want api.Errno
	}{
		"no count":                                 {nil, api.ErrShort},
		"a count that is cut":                      {cut, api.ErrShort},
		"a count that is cut behind two":           {[]byte{0xff, 0xff}, api.ErrShort},
		"a count with a last byte 0":               {join(turned, make([]byte, 9)), api.ErrFormat},
		"a count with a last byte 0, of 255":       {join([]byte{0xff, 0x81, 0x00}, make([]byte, 255)), api.ErrFormat},
		"a count above 2^40":                       {join(great, make([]byte, 9)), api.ErrFormat},
		"a count without an end":                   {endless, api.ErrFormat},
		"255, all there":                           {many(255, 255), api.OK},
		"255, one more there":                      {many(255, 256), api.OK},
		"255, one is missing":                      {many(255, 254), api.ErrShort},
		"255, all are missing":                     {many(255, 0), api.ErrShort},
		"256, all there":                           {many(256, 256), api.ErrBig},
		"256, one is missing":                      {many(256, 255), api.ErrBig},
		"256, all are missing":                     {many(256, 0), api.ErrBig},
		"257, all there":                           {many(257, 257), api.ErrBig},
		"511, all there":                           {many(511, 511), api.ErrBig},
		"2^32, none there":                         {many(1<<32, 0), api.ErrBig},
		"2^32 + 1, one there":                      {many(1<<32+1, 1), api.ErrBig},
		"2^40, none there":                         {many(1<<40, 0), api.ErrBig},
		"256, and the first one is wrong":          {join(many(256, 0), turned), api.ErrBig},
		"1, which is missing":                      {[]byte{1}, api.ErrShort},
		"1, which is cut":                          {join([]byte{1}, cut), api.ErrShort},
		"1, which is wrong":                        {join([]byte{1}, turned), api.ErrFormat},
		"3, the third one is missing":              {[]byte{3, 1, 2}, api.ErrShort},
		"3, the third one is cut":                  {join([]byte{3, 1, 2}, cut), api.ErrShort},
		"3, the third one has a last byte 0":       {join([]byte{3, 1, 2}, turned), api.ErrFormat},
		"3, the third one is too great":            {join([]byte{3, 1, 2}, great), api.ErrFormat},
		"3, the third one has no end":              {join([]byte{3, 1, 2}, endless), api.ErrFormat},
		"3, the second is wrong, the third misses": {join([]byte{3, 1}, turned), api.ErrFormat},
		"3, the second is wrong, the third is cut": {join([]byte{3, 1}, great, cut), api.ErrFormat},
		"2, and a wrong one behind them":           {join([]byte{2, 1, 2}, turned), api.OK},
		"none, and a wrong one behind it":          {join([]byte{0}, turned), api.OK},
		"none, and nothing behind it":              {[]byte{0}, api.OK},
	} {
		if _, _, e := Takes(c.b, 0); e != c.want {
			t.Errorf("%s: %d, want %d", name, e, c.want)
		}
		for _, ahead := range around() {
			b := join(ahead, c.b)
			if c.want != api.OK {
				refusedTakes(t, b, len(ahead), c.want)
			}
			checkTakes(t, b, len(ahead))
		}
	}
}

// P8.2, P8.3: all lists of up to six of some bytes.
func TestTakesAll(t *testing.T) {
	for count := range 7 {
		each([]byte{0x00, 0x01, 0x02, 0x03, 0x7f, 0x80, 0xff}, count, func(b []byte) {
			checkTakes(t, b, 0)
			if l, next, e := Takes(b, 0); e == api.OK {
				if own, e := Puts(nil, l); e != api.OK || !bytes.Equal(own, b[:next]) {
					t.Fatalf("Takes(%x, 0): %d, whose bytes are %x", b, l, own)
				}
			}
		})
	}
}

// P8.1, P8.2, P8.3: bytes of any sort, at all places.
func TestAnyBytes(t *testing.T) {
	r := rand.New(rand.NewSource(81))
	for range 20000 {
		var b []byte
		for range r.Intn(5) {
			switch r.Intn(4) {
			case 0:
				b = append(b, anyBytes(r, r.Intn(8))...)
			case 1:
				b = append(b, bytes.Repeat([]byte{0x80 | byte(r.Intn(128))}, r.Intn(8))...)
			case 2:
				b = append(b, expectBytes(anyNumber(r))...)
			default:
				b = append(b, expectList(anyList(r, r.Intn(5)))...)
			}
		}
		for at := -1; at <= len(b)+1; at++ {
			checkTake(t, b, at)
			checkTakes(t, b, at)
			if n, next, e := Take(b, at); e == api.OK && !bytes.Equal(b[at:next], byWords(n)) {
				t.Fatalf("Take(%x, %d): %d, up to %d", b, at, n, next)
			}
		}
	}
}

// P8.3: numbers and lists that are put one behind the other are taken one behind the other.
func TestBack(t *testing.T) {
	r := rand.New(rand.NewSource(83))
	for range 2000 {
		b := anyBytes(r, r.Intn(9))
		at, parts := len(b), anyParts(r)
		for _, p := range parts {
			b = putPart(t, b, p)
		}
		b = append(b, anyBytes(r, r.Intn(9))...)
		for i, p := range parts {
			next := takePart(t, b, at, p)
			if own := putPart(t, nil, p); !bytes.Equal(own, b[at:next]) {
				t.Fatalf("part %d: %x, taken from %x", i, own, b[at:next])
			}
			at = next
		}
	}
}

// part is a list, or, if it is bare, the one number in it.
type part struct {
	bare bool
	l    []int
}

func anyParts(r *rand.Rand) []part {
	var parts []part
	for range 1 + r.Intn(6) {
		if r.Intn(2) == 0 {
			parts = append(parts, part{true, anyList(r, 1)})
		} else {
			parts = append(parts, part{false, anyList(r, r.Intn(1<<r.Intn(9)))})
		}
	}
	return parts
}

func putPart(t *testing.T, out []byte, p part) []byte {
	t.Helper()
	var e api.Errno
	if p.bare {
		out, e = Put(out, p.l[0])
	} else {
		out, e = Puts(out, p.l)
	}
	if e != api.OK {
		t.Fatalf("%d is not put: %d", p.l, e)
	}
	return out
}

func takePart(t *testing.T, b []byte, at int, p part) int {
	t.Helper()
	l, next, e := []int{0}, 0, api.OK
	if p.bare {
		l[0], next, e = Take(b, at)
	} else {
		l, next, e = Takes(b, at)
	}
	if e != api.OK || !slices.Equal(l, p.l) {
		t.Fatalf("%d is taken as %d: %d", p.l, l, e)
	}
	return next
}

// P8.4: without its last byte, or more of them, what was put ends too early, whatever stands ahead of it.
func TestCut(t *testing.T) {
	for _, ahead := range around() {
		for _, n := range edgy() {
			b, _ := Put(ahead, n)
			for end := len(ahead); end < len(b); end++ {
				refusedTake(t, b[:end], len(ahead), api.ErrShort)
				refusedTake(t, slices.Clone(b[:end]), len(ahead), api.ErrShort)
			}
		}
		for _, l := range lists() {
			b, _ := Puts(ahead, l)
			for end := len(ahead); end < len(b); end++ {
				refusedTakes(t, b[:end], len(ahead), api.ErrShort)
			}
		}
	}
}

// spoil overwrites a list, and what stands behind its end, too.
func spoil[E any](l []E, with E) {
	l = l[:cap(l)]
	for i := range l {
		l[i] = with
	}
}

// What is handed in stays as it was, what stands behind its end, too.
func TestArgumentsStay(t *testing.T) {
	given := join(expectList([]int{1, 300, top}), expectBytes(top), []byte{0x80, 0}, []byte("behind the end of all that is handed in"))
	kept := slices.Clone(given)
	numbers := []int{3, 1, 300, top, 0, -1, 5, 6}
	keptNumbers := slices.Clone(numbers)
	for n := range len(given) {
		for at := -1; at <= n+1; at++ {
			Take(given[:n], at)
			Takes(given[:n], at)
		}
		for count := range len(numbers) + 1 {
			Put(given[:n], keptNumbers[max(count-1, 0)])
			Puts(given[:n], numbers[:count])
		}
		if !bytes.Equal(given, kept) || !slices.Equal(numbers, keptNumbers) {
			t.Fatalf("with %d bytes: %x, %d; was %x, %d", n, given, numbers, kept, keptNumbers)
		}
	}
}

// An answer shares nothing with arguments, nor with other answers.
func TestNewMemory(t *testing.T) {
	l := []int{1, 300, top}
	b := append(make([]byte, 0, 100), expectList(l)...)
	kept := slices.Clone(b)
	wantPut, wantPuts := join(kept, expectBytes(300)), join(kept, kept)
	for range 2 {
		put, _ := Put(b, 300)
		otherPut, _ := Put(b, 300)
		puts, _ := Puts(b, l)
		otherPuts, _ := Puts(b, l)
		got, _, _ := Takes(b, 0)
		other, _, _ := Takes(b, 0)
		spoil(put, 0xee)
		spoil(puts, 0xee)
		spoil(got, -7)
		if !bytes.Equal(b, kept) || !slices.Equal(l, []int{1, 300, top}) {
			t.Fatal("an answer shares memory with an argument")
		}
		if !bytes.Equal(otherPut, wantPut) || !bytes.Equal(otherPuts, wantPuts) || !slices.Equal(other, l) {
			t.Fatal("two answers share memory")
		}
	}
	put, _ := Put(b, 300)
	puts, _ := Puts(b, l)
	got, _, _ := Takes(b, 0)
	spoil(b, 0xee)
	spoil(l, -7)
	if !bytes.Equal(put, wantPut) || !bytes.Equal(puts, wantPuts) || !slices.Equal(got, []int{1, 300, top}) {
		t.Fatal("an answer changes with its argument")
	}
}

// Examples of the chapter.
func TestExamples(t *testing.T) {
	for n, want := range map[int]string{0: "\x00", 127: "\x7f", 128: "\x80\x01", 1 << 40: "\x80\x80\x80\x80\x80\x20"} {
		if b, e := Put(nil, n); string(b) != want || e != api.OK {
			t.Errorf("Put(none, %d): %x, %d", n, b, e)
		}
		if got, next, e := Take([]byte(want), 0); got != n || next != len(want) || e != api.OK {
			t.Errorf("Take(%x, 0): %d, %d, %d", want, got, next, e)
		}
	}
	refusedTake(t, []byte{0x80, 0x00}, 0, api.ErrFormat)
	b, e := Puts(nil, []int{1, 300})
	if string(b) != "\x02\x01\xac\x02" || e != api.OK {
		t.Errorf("Puts(none, 1 and 300): %x, %d", b, e)
	}
	if l, next, e := Takes(b, 0); !slices.Equal(l, []int{1, 300}) || next != 4 || e != api.OK {
		t.Errorf("Takes(%x, 0): %d, %d, %d", b, l, next, e)
	}
}
