package frame

import (
	"bytes"
	"encoding/binary"
	"hash/crc32"
	"io"
	"math"
	"math/rand"
	"slices"
	"testing"

	"argosy/api"
)

// The second reckoning: the library's sum by this polynomial, and frames that are read from a stream, field by field.

var table = crc32.MakeTable(crc32.Castagnoli)

func expectSum(b []byte) uint32 { return crc32.Checksum(b, table) }

func expectFrame(body []byte) []byte {
	f := binary.BigEndian.AppendUint16(nil, uint16(len(body)))
	f = append(f, body...)
	return binary.LittleEndian.AppendUint32(f, expectSum(f))
}

func expectTake(b []byte, at int) ([]byte, int, api.Errno) {
	if at < 0 || at > len(b) {
		return nil, 0, api.ErrArg
	}
	if at == len(b) {
		return nil, 0, api.ErrEnd
	}
	r := bytes.NewReader(b)
	r.Seek(int64(at), io.SeekStart)
	var n uint16
	if binary.Read(r, binary.BigEndian, &n) != nil {
		return nil, 0, api.ErrShort
	}
	if n > 1024 {
		return nil, 0, api.ErrBig
	}
	body := make([]byte, n)
	if _, err := io.ReadFull(r, body); err != nil {
		return nil, 0, api.ErrShort
	}
	var sum uint32
	if binary.Read(r, binary.LittleEndian, &sum) != nil {
		return nil, 0, api.ErrShort
	}
	if f := expectFrame(body); sum != binary.LittleEndian.Uint32(f[len(f)-4:]) {
		return nil, 0, api.ErrSum
	}
	return body, len(b) - r.Len(), api.OK
}

func expectAll(b []byte) (bodies [][]byte, at int, e api.Errno) {
	for {
		body, next, e := expectTake(b, at)
		if e != api.OK {
			return bodies, at, e
		}
		bodies, at = append(bodies, body), next
	}
}

func alike(a, b [][]byte) bool { return slices.EqualFunc(a, b, bytes.Equal) }

// checkTake holds Take against the second reckoning.
func checkTake(t *testing.T, b []byte, at int) {
	t.Helper()
	body, next, e := Take(b, at)
	wantBody, wantNext, want := expectTake(b, at)
	if !bytes.Equal(body, wantBody) || next != wantNext || e != want {
		t.Fatalf("Take(%d bytes, %d): %x, %d, %d; want %x, %d, %d", len(b), at, body, next, e, wantBody, wantNext, want)
	}
}

// checkAll holds All against the second reckoning.
func checkAll(t *testing.T, b []byte) {
	t.Helper()
	bodies, at, e := All(b)
	wantBodies, wantAt, want := expectAll(b)
	if !alike(bodies, wantBodies) || at != wantAt || e != want {
		t.Fatalf("All(%x): %x, %d, %d; want %x, %d, %d", b, bodies, at, e, wantBodies, wantAt, want)
	}
}

// frames are bodies' frames, one behind the other.
func frames(bodies ...[]byte) []byte {
	var b []byte
	for _, body := range bodies {
		b = append(b, expectFrame(body)...)
	}
	return b
}

func randomBytes(r *rand.Rand, n int) []byte {
	b := make([]byte, n)
	r.Read(b)
	return b
}

// edgy are bodies of all lengths at which something changes.
func edgy() [][]byte {
	r := rand.New(rand.NewSource(6))
	var l [][]byte
	for _, n := range []int{0, 1, 2, 3, 4, 5, 6, 7, 8, 9, 15, 16, 17, 255, 256, 257, 1000, 1022, 1023, 1024} {
		l = append(l, randomBytes(r, n), make([]byte, n), bytes.Repeat([]byte{0xff}, n))
	}
	return l
}

// bitwise is the sum as the chapter's words say it, one bit after the other in a list.
func bitwise(b []byte) uint32 {
	r := make([]int, 32) // the lowest bit first
	for i := range r {
		r[i] = 1
	}
	for _, c := range b {
		for i := range 8 {
			r[i] ^= int(c >> i & 1)
		}
		for range 8 {
			out := r[0]
			r = append(r[1:], 0)
			for i := range r {
				r[i] ^= out * int(uint32(0x82f63b78)>>i&1)
			}
		}
	}
	var n uint32
	for i := range r {
		n |= uint32(1-r[i]) << i
	}
	return n
}

// P6.1
func TestSum(t *testing.T) {
	for text, want := range map[string]uint32{
		"":          0,
		"123456789": 0xe3069283,
		"a":         0xc1d04330,
		"\x00":      0x527d5351,
		"\xff":      0xff000000,
		"The quick brown fox jumps over the lazy dog": 0x22620404,
		string(make([]byte, 32)):                      0x8a9136aa,
		string(bytes.Repeat([]byte{0xff}, 32)):        0x62a8ab43,
	} {
		if n := Sum([]byte(text)); n != want {
			t.Errorf("Sum(%q): %x, want %x", text, n, want)
		}
	}
	if n := Sum(nil); n != 0 {
		t.Errorf("Sum of none: %x", n)
	}
	for c := range 256 {
		for d := range 256 {
			if b := []byte{byte(c), byte(d)}; Sum(b) != expectSum(b) {
				t.Fatalf("Sum(%x): %x, want %x", b, Sum(b), expectSum(b))
			}
		}
	}
	for _, b := range edgy() {
		if n := Sum(b); n != expectSum(b) || n != bitwise(b) {
			t.Fatalf("Sum(%x): %x, want %x and %x", b, n, expectSum(b), bitwise(b))
		}
	}
	r := rand.New(rand.NewSource(61))
	if b := randomBytes(r, 1<<20); Sum(b) != expectSum(b) {
		t.Error("the sum of many bytes")
	}
}

// P6.1
func TestPut(t *testing.T) {
	r := rand.New(rand.NewSource(62))
	outs := [][]byte{nil, {}, []byte("x"), make([]byte, 7), expectFrame([]byte("first")), randomBytes(r, 3000)}
	for _, body := range edgy() {
		for _, out := range outs {
			for _, room := range []int{0, 1, 6, 5000} {
				given := append(make([]byte, 0, len(out)+room), out...)
				b, e := Put(given, body)
				if want := append(slices.Clone(out), expectFrame(body)...); e != api.OK || !bytes.Equal(b, want) {
					t.Fatalf("Put(%x, %x): %x, %d; want %x", out, body, b, e, want)
				}
			}
		}
	}
	if b, e := Put(nil, nil); e != api.OK || !bytes.Equal(b, expectFrame(nil)) || len(b) != 6 {
		t.Errorf("Put(none, none): %x, %d", b, e)
	}
	for _, n := range []int{1025, 1026, 2048, 65535, 65536, 65537, 66560, 1 << 20} {
		for _, out := range outs {
			if b, e := Put(out, make([]byte, n)); e != api.ErrBig || len(b) != 0 {
				t.Errorf("Put of %d bytes: %d bytes, %d", n, len(b), e)
			}
		}
	}
}

// P6.1: a list may be both what is put onto, and the body.
func TestPutOntoItself(t *testing.T) {
	b := append(make([]byte, 0, 64), "abcdef"...)
	got, e := Put(b[:3], b[1:5])
	if want := append([]byte("abc"), expectFrame([]byte("bcde"))...); e != api.OK || !bytes.Equal(got, want) {
		t.Errorf("%x, %d; want %x", got, e, want)
	}
	if string(b) != "abcdef" {
		t.Errorf("%q", b)
	}
}

// P6.2
func TestTake(t *testing.T) {
	for _, body := range edgy() {
		b := frames([]byte("ahead"), body, []byte("behind"))
		for at := -2; at <= len(b)+2; at++ {
			checkTake(t, b, at)
		}
		at := 6 + len("ahead")
		if got, next, e := Take(b, at); !bytes.Equal(got, body) || next != at+6+len(body) || e != api.OK {
			t.Fatalf("%x, %d, %d", got, next, e)
		}
	}
}

// P6.2
func TestTakePlaces(t *testing.T) {
	b := expectFrame([]byte("hello"))
	for at, want := range map[int]api.Errno{
		math.MinInt: api.ErrArg,
		-1 << 32:    api.ErrArg,
		-1:          api.ErrArg,
		0:           api.OK,
		len(b) - 1:  api.ErrShort,
		len(b):      api.ErrEnd,
		len(b) + 1:  api.ErrArg,
		1 << 32:     api.ErrArg,
		math.MaxInt: api.ErrArg,
	} {
		if _, _, e := Take(b, at); e != want {
			t.Errorf("Take at %d: %d, want %d", at, e, want)
		}
		checkTake(t, b, at)
	}
	for _, none := range [][]byte{nil, {}} {
		for at, want := range map[int]api.Errno{-1: api.ErrArg, 0: api.ErrEnd, 1: api.ErrArg} {
			if body, next, e := Take(none, at); len(body) != 0 || next != 0 || e != want {
				t.Errorf("Take of none at %d: %x, %d, %d", at, body, next, e)
			}
		}
	}
	// What stands behind a list's end is not among its bytes.
	for n := range b {
		if _, _, e := Take(b[:n], n); e != api.ErrEnd {
			t.Errorf("at %d: %d", n, e)
		}
		if _, _, e := Take(b[:n], n+1); e != api.ErrArg {
			t.Errorf("behind %d: %d", n, e)
		}
	}
}

// P6.2
func TestTakeErrors(t *testing.T) {
	whole := func(n int) []byte { // a frame with a right sum, of any length
		f := append(binary.BigEndian.AppendUint16(nil, uint16(n)), make([]byte, n)...)
		return binary.LittleEndian.AppendUint32(f, expectSum(f))
	}
	full := expectFrame(make([]byte, 1024))
	bare := expectFrame(nil)
	for name, c := range map[string]struct {
		b    []byte
		want api.Errno
	}{
		"one byte":                              {[]byte{0}, api.ErrShort},
		"one byte that begins too much":         {[]byte{0xff}, api.ErrShort},
		"too much, nothing behind":              {[]byte{4, 1}, api.ErrBig},
		"too much, some behind":                 {append([]byte{4, 1}, make([]byte, 100)...), api.ErrBig},
		"too much, all behind":                  {whole(1025), api.ErrBig},
		"far too much, nothing behind":          {[]byte{0xff, 0xff}, api.ErrBig},
		"far too much, all behind":              {whole(65535), api.ErrBig},
		"too much in the first byte alone":      {whole(0x500), api.ErrBig},
		"1024, nothing behind":                  {[]byte{4, 0}, api.ErrShort},
		"1024, one byte lacks":                  {full[:len(full)-1], api.ErrShort},
		"1024, the sum lacks":                   {full[:len(full)-4], api.ErrShort},
		"1024, all but two lack":                {full[:2], api.ErrShort},
		"1024, whole":                           {full, api.OK},
		"no body, the last byte lacks":          {bare[:5], api.ErrShort},
		"no body, all but two lack":             {bare[:2], api.ErrShort},
		"no body, all but one lack":             {bare[:1], api.ErrShort},
		"no body, whole":                        {bare, api.OK},
		"zeros alone":                           {make([]byte, 6), api.ErrSum},
		"ones alone":                            {bytes.Repeat([]byte{0xff}, 2000), api.ErrBig},
		"one byte lacks, and the body is wrong": {[]byte{0, 1, 0x42, 0, 0, 0}, api.ErrShort},
	} {
		body, next, e := Take(c.b, 0)
		if e != c.want {
			t.Errorf("%s: %d, want %d", name, e, c.want)
		}
		if e != api.OK && (len(body) != 0 || next != 0) {
			t.Errorf("%s: %x and %d beside the error", name, body, next)
		}
		checkTake(t, c.b, 0)
		checkAll(t, c.b)
	}
}

// P6.2: the sum is that of the two bytes and the body, the lowest byte first.
func TestTakeOtherSums(t *testing.T) {
	body := []byte("hello")
	f := expectFrame(body)
	ahead, sum := f[:len(f)-4], f[len(f)-4:]
	turned := slices.Clone(sum)
	slices.Reverse(turned)
	for name, s := range map[string][]byte{
		"the highest byte first":  turned,
		"of the body alone":       binary.LittleEndian.AppendUint32(nil, expectSum(body)),
		"not turned":              binary.LittleEndian.AppendUint32(nil, ^expectSum(ahead)),
		"by another polynomial":   binary.LittleEndian.AppendUint32(nil, crc32.ChecksumIEEE(ahead)),
		"none":                    make([]byte, 4),
		"right but in its first":  {sum[0] ^ 1, sum[1], sum[2], sum[3]},
		"right but in its second": {sum[0], sum[1] ^ 1, sum[2], sum[3]},
		"right but in its third":  {sum[0], sum[1], sum[2] ^ 1, sum[3]},
		"right but in its last":   {sum[0], sum[1], sum[2], sum[3] ^ 0x80},
	} {
		if got, next, e := Take(append(slices.Clone(ahead), s...), 0); len(got) != 0 || next != 0 || e != api.ErrSum {
			t.Errorf("%s: %x, %d, %d", name, got, next, e)
		}
	}
}

// P6.2: any bit of a frame that is turned is told.
func TestTakeTurnedBit(t *testing.T) {
	for _, body := range [][]byte{nil, []byte("a"), []byte("hello"), make([]byte, 300), bytes.Repeat([]byte{0xa5}, 1024)} {
		f := append(expectFrame(body), expectFrame([]byte("behind"))...)
		for i := range 8 * (len(body) + 6) {
			f[i/8] ^= 1 << (i % 8)
			if got, next, e := Take(f, 0); len(got) != 0 || next != 0 || e == api.OK {
				t.Fatalf("bit %d of a frame of %d bytes: %x, %d, %d", i, len(body), got, next, e)
			} else if i >= 16 && e != api.ErrSum {
				t.Fatalf("bit %d of a frame of %d bytes: %d", i, len(body), e)
			}
			checkTake(t, f, 0)
			checkAll(t, f)
			f[i/8] ^= 1 << (i % 8)
		}
	}
}

// P6.2: what a turned bit in the length makes of a frame.
func TestTakeTurnedLength(t *testing.T) {
	f := frames([]byte("hello"))
	for _, c := range []struct {
		at   int
		bit  byte
		want api.Errno
	}{{0, 0x80, api.ErrBig}, {0, 0x08, api.ErrBig}, {0, 0x04, api.ErrBig}, {0, 0x01, api.ErrShort}, {1, 0x08, api.ErrShort}, {1, 0x01, api.ErrSum}, {1, 0x04, api.ErrSum}} {
		g := slices.Clone(f)
		g[c.at] ^= c.bit
		if _, _, e := Take(g, 0); e != c.want {
			t.Errorf("byte %d, bit %x: %d, want %d", c.at, c.bit, e, c.want)
		}
	}
}

// P6.3
func TestAll(t *testing.T) {
	for _, none := range [][]byte{nil, {}} {
		if l, at, e := All(none); len(l) != 0 || at != 0 || e != api.ErrEnd {
			t.Errorf("All of none: %x, %d, %d", l, at, e)
		}
	}
	bodies := edgy()
	for n := range bodies {
		l, at, e := All(frames(bodies[:n]...))
		if !alike(l, bodies[:n]) || at != len(frames(bodies[:n]...)) || e != api.ErrEnd {
			t.Fatalf("%d frames: %d, %d, %d", n, len(l), at, e)
		}
	}
}

// P6.3: each error behind no frame, one, and some; right frames behind it are not told.
func TestAllErrors(t *testing.T) {
	wrong := expectFrame([]byte("wrong"))
	wrong[4] ^= 0x10
	ends := map[string]struct {
		b    []byte
		want api.Errno
	}{
		"nothing":              {nil, api.ErrEnd},
		"one byte":             {[]byte{0}, api.ErrShort},
		"too much":             {[]byte{4, 1}, api.ErrBig},
		"too much, and frames": {append([]byte{4, 1}, frames(edgy()...)...), api.ErrBig},
		"torn":                 {expectFrame([]byte("torn"))[:9], api.ErrShort},
		"turned":               {wrong, api.ErrSum},
		"turned, and frames":   {append(slices.Clone(wrong), frames(edgy()...)...), api.ErrSum},
	}
	for _, bodies := range [][][]byte{nil, {nil}, {[]byte("a")}, {[]byte("a"), nil, []byte("bc"), make([]byte, 1024)}} {
		for name, c := range ends {
			whole := frames(bodies...)
			l, at, e := All(append(slices.Clone(whole), c.b...))
			if !alike(l, bodies) || at != len(whole) || e != c.want {
				t.Errorf("%d frames, %s: %d, %d, %d; want %d, %d, %d", len(bodies), name, len(l), at, e, len(bodies), len(whole), c.want)
			}
		}
	}
}

// P6.2, P6.3: bytes of any sort, most of which go wrong soon.
func TestAnyBytes(t *testing.T) {
	r := rand.New(rand.NewSource(63))
	for range 20000 {
		var b []byte
		for range r.Intn(5) {
			switch r.Intn(4) {
			case 0:
				b = append(b, randomBytes(r, r.Intn(8))...)
			case 1:
				b = append(b, make([]byte, r.Intn(8))...)
			default:
				b = append(b, expectFrame(randomBytes(r, r.Intn(12)))...)
			}
		}
		if len(b) > 0 && r.Intn(2) == 0 {
			b[r.Intn(len(b))] ^= 1 << r.Intn(8)
		}
		checkAll(t, b)
		for at := -1; at <= len(b)+1; at++ {
			checkTake(t, b, at)
		}
	}
}

// P6.4
func TestBack(t *testing.T) {
	r := rand.New(rand.NewSource(64))
	for range 300 {
		var bodies [][]byte
		for range r.Intn(8) {
			n := r.Intn(20)
			if r.Intn(4) == 0 {
				n = r.Intn(1025)
			}
			bodies = append(bodies, randomBytes(r, n))
		}
		out := put(t, bodies)
		at := 0
		for i, body := range bodies {
			got, next, e := Take(out, at)
			if !bytes.Equal(got, body) || next != at+len(body)+6 || e != api.OK {
				t.Fatalf("frame %d: %x, %d, %d", i, got, next, e)
			}
			at = next
		}
		if got, next, e := Take(out, at); len(got) != 0 || next != 0 || e != api.ErrEnd {
			t.Fatalf("at the end: %x, %d, %d", got, next, e)
		}
		if l, end, e := All(out); !alike(l, bodies) || end != len(out) || end != at || e != api.ErrEnd {
			t.Fatalf("All: %d, %d, %d", len(l), end, e)
		}
	}
}

// put puts frames by Put, one onto the others.
func put(t *testing.T, bodies [][]byte) []byte {
	t.Helper()
	var out []byte
	for _, body := range bodies {
		var e api.Errno
		if out, e = Put(out, body); e != api.OK {
			t.Fatalf("Put of %d bytes: %d", len(body), e)
		}
	}
	return out
}

// P6.5
func TestTorn(t *testing.T) {
	for _, bodies := range [][][]byte{
		{nil},
		{[]byte("a")},
		{nil, nil, nil},
		{[]byte("hello"), nil, []byte("a"), bytes.Repeat([]byte("bc"), 150), {0, 0}, {0xff}},
		{make([]byte, 1024), bytes.Repeat([]byte{0xff}, 1023), make([]byte, 5)},
	} {
		out := put(t, bodies)
		for n := range len(out) + 1 {
			count, end := 0, 0
			for count < len(bodies) && end+len(bodies[count])+6 <= n {
				end += len(bodies[count]) + 6
				count++
			}
			want := api.ErrShort
			if end == n {
				want = api.ErrEnd
			}
			l, at, e := All(out[:n])
			if !alike(l, bodies[:count]) || at != end || e != want {
				t.Fatalf("cut off at %d: %d, %d, %d; want %d, %d, %d", n, len(l), at, e, count, end, want)
			}
		}
	}
}

// turn turns, from a body's bit on (each byte's lowest bit first), those of 32 bits that are told.
func turn(f []byte, from int, bits uint32) {
	for i := range 32 {
		if bits>>i&1 == 1 {
			k := from + i
			f[2+k/8] ^= 1 << (k % 8)
		}
	}
}

// checkTurned turns bits of a body in a frame, looks that it is not taken, and turns them back.
func checkTurned(t *testing.T, f []byte, from int, bits uint32) {
	t.Helper()
	turn(f, from, bits)
	if got, next, e := Take(f, 0); len(got) != 0 || next != 0 || e != api.ErrSum {
		t.Fatalf("bits %x from %d on of %d bytes: %x, %d, %d", bits, from, len(f)-6, got, next, e)
	}
	if l, at, e := All(f); len(l) != 0 || at != 0 || e != api.ErrSum {
		t.Fatalf("bits %x from %d on of %d bytes: All: %d, %d, %d", bits, from, len(f)-6, len(l), at, e)
	}
	turn(f, from, bits)
}

// P6.6: any bits of a window of 32 that lies in the body.
func TestTurned(t *testing.T) {
	r := rand.New(rand.NewSource(66))
	known := []uint32{1, 3, 0x80000000, 0x80000001, 0xffffffff, 0x82f63b78, 0x05ec76f1, 0x8f6e37a0, 0x11edc6f41 & math.MaxUint32, 0xaaaaaaaa, 0x55555555, 0x00018000, 0xff, 0xff000000}
	for _, n := range []int{4, 5, 7, 8, 13, 64, 1023, 1024} {
		f := expectFrame(randomBytes(r, n))
		last := 8*n - 32
		for _, from := range []int{0, 1, 5, 7, 8, last / 2, last - 8, last - 1, last} {
			if from < 0 || from > last {
				continue
			}
			for _, bits := range known {
				checkTurned(t, f, from, bits)
			}
			for range 20 {
				checkTurned(t, f, from, r.Uint32()|1<<r.Intn(32))
			}
		}
	}
	f := expectFrame([]byte("some words of a log"))
	for from := range 8*(len(f)-6) - 31 {
		for range 200 {
			checkTurned(t, f, from, r.Uint32()|1<<r.Intn(32))
		}
	}
}

// P6.6: bodies that have fewer than 32 bits: all that they can be turned to.
func TestTurnedShort(t *testing.T) {
	for n := 1; n <= 2; n++ {
		f := expectFrame(bytes.Repeat([]byte{0x41}, n))
		for bits := uint32(1); bits < 1<<(8*n); bits++ {
			checkTurned(t, f, 0, bits)
		}
	}
	r := rand.New(rand.NewSource(67))
	f := expectFrame([]byte("abc"))
	for range 2000 {
		checkTurned(t, f, 0, (r.Uint32()|1<<r.Intn(24))&(1<<24-1)|1)
	}
}

// P6.6: a frame that was turned ends what is told of those behind one another.
func TestTurnedAmongOthers(t *testing.T) {
	bodies := [][]byte{[]byte("first"), []byte("second"), nil, []byte("last")}
	out := frames(bodies...)
	at := 0
	for i, body := range bodies {
		for k := range 8 * len(body) {
			b := slices.Clone(out)
			b[at+2+k/8] ^= 1 << (k % 8)
			if l, end, e := All(b); !alike(l, bodies[:i]) || end != at || e != api.ErrSum {
				t.Fatalf("bit %d of frame %d: %d, %d, %d", k, i, len(l), end, e)
			}
		}
		at += len(body) + 6
	}
}

// spoil overwrites a list, and what stands behind its end, too.
func spoil[E any](l []E, with E) {
	l = l[:cap(l)]
	for i := range l {
		l[i] = with
	}
}

// What is handed in stays as it was, what stands behind its end, too.
func TestArgumentsStay(t *testing.T) {
	given := append(frames([]byte("hello"), []byte("a"), nil), "behind the end of all that is handed in"...)
	kept := slices.Clone(given)
	whole := len(frames([]byte("hello"), []byte("a"), nil))
	for n := range whole + 1 {
		for at := range n + 1 {
			Take(given[:n], at)
			Put(given[:at], given[at:n])
			Put(given[at:n], given[:at])
		}
		Sum(given[:n])
		All(given[:n])
		Put(given[:n], make([]byte, 1025))
		if !bytes.Equal(given, kept) {
			t.Fatalf("with %d bytes: %x, was %x", n, given, kept)
		}
	}
}

// An answer shares nothing with arguments, nor with other answers, nor do two bodies of one answer.
func TestNewMemory(t *testing.T) {
	bodies := [][]byte{[]byte("hello"), nil, []byte("a"), []byte("last")}
	b := frames(bodies...)
	kept := slices.Clone(b)
	for range 2 {
		body, _, _ := Take(b, 0)
		again, _, _ := Take(b, 0)
		spoil(body, 0xee)
		if string(again) != "hello" || !bytes.Equal(b, kept) {
			t.Fatal("Take shares its answer")
		}
		out, _ := Put(b[:11], bodies[3])
		other, _ := Put(b[:11], bodies[3])
		bare, _ := Put(nil, bodies[3])
		spoil(out, 0xee)
		spoil(bare, 0xee)
		if !bytes.Equal(b, kept) || string(bodies[3]) != "last" || !bytes.Equal(other, append(slices.Clone(kept[:11]), expectFrame(bodies[3])...)) {
			t.Fatal("Put shares its answer")
		}
		all, _, _ := All(b)
		second, _, _ := All(b)
		for i := range all {
			spoil(all[i], 0xee)
			if !alike(all[i+1:], bodies[i+1:]) {
				t.Fatal("two bodies of one answer share memory")
			}
		}
		spoil(all, nil)
		if !alike(second, bodies) || !bytes.Equal(b, kept) {
			t.Fatal("All shares its answer")
		}
	}
	// A body stays as it was when the bytes that it was taken from change.
	body, _, _ := Take(b, 0)
	all, _, _ := All(b)
	out, _ := Put(b, b[:4])
	spoil(b, 0xee)
	if string(body) != "hello" || !alike(all, bodies) || !bytes.Equal(out, append(slices.Clone(kept), expectFrame(kept[:4])...)) {
		t.Fatal("an answer changes with its argument")
	}
}

// Many frames are gone through in a time that grows as they do.
func TestManyFrames(t *testing.T) {
	one := expectFrame(nil)
	b := bytes.Repeat(one, 100000)
	if l, at, e := All(b); len(l) != 100000 || at != len(b) || e != api.ErrEnd {
		t.Errorf("%d, %d, %d", len(l), at, e)
	}
}

// Examples of the chapter.
func TestExamples(t *testing.T) {
	if n := Sum([]byte("123456789")); n != 0xe3069283 {
		t.Errorf("%x", n)
	}
	b, e := Put(nil, []byte{0x41})
	if e != api.OK || len(b) != 7 || !bytes.Equal(b[:3], []byte{0, 1, 0x41}) {
		t.Errorf("%x, %d", b, e)
	}
	if sum := Sum(b[:3]); binary.LittleEndian.Uint32(b[3:]) != sum {
		t.Errorf("%x, want %x", b[3:], sum)
	}
	if body, next, e := Take(b, len(b)); len(body) != 0 || next != 0 || e != api.ErrEnd {
		t.Errorf("%x, %d, %d", body, next, e)
	}
}
