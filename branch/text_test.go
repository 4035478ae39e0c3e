package branch

import (
	"slices"
	"strings"
	"testing"

	"argosy/api"
	"argosy/disk"
)

// newDisk is a disk of so many files, and so much room.
func newDisk(t *testing.T, files, room int) *disk.Disk {
	t.Helper()
	d, e := disk.New(files, room)
	if d == nil || e != api.OK {
		t.Fatalf("disk.New(%d, %d): %d", files, room, e)
	}
	return d
}

// put lets a file have bytes, of which the first ones are synced.
func put(t *testing.T, d *disk.Disk, i int, bytes string, synced int) {
	t.Helper()
	for _, e := range []api.Errno{d.Cut(i, 0), d.Append(i, []byte(bytes[:synced])), d.Sync(i), d.Append(i, []byte(bytes[synced:]))} {
		if e != api.OK {
			t.Fatalf("file %d: %d", i, e)
		}
	}
}

// dead is a disk alike, without power.
func dead(d *disk.Disk) *disk.Disk {
	d = d.Copy()
	d.Arm(0)
	d.Sync(0)
	return d
}

func expect(t *testing.T, what string, e, want api.Errno) {
	t.Helper()
	if e != want {
		t.Fatalf("%s: %d, want %d", what, e, want)
	}
}

// sizes are lengths of texts at which something changes, and some between.
func sizes() []int {
	return []int{0, 1, 2, 500, 994, 999, 1000, 1001, 1006, 1024, 1025, 1999, 2000, 2001, 2999, 3000, 3001, 64999, 65000, 65001, 65535, 65536}
}

// textOf is a text of so many bytes, of all values, unlike ones behind one another.
func textOf(size int) string {
	b := make([]byte, size)
	for i := range b {
		b[i] = byte(i*7 + i/256)
	}
	return string(b)
}

// noTexts are files that are no text's.
func noTexts() map[string]string {
	k := textOf(1000)
	whole := fileOf("ab")
	turned := []byte(whole)
	turned[2] ^= 1
	return map[string]string{
		"no bytes":                                   "",
		"no frame":                                   "torn",
		"a piece, and no end":                        frameOf("ab"),
		"a piece of 1000, and no end":                frameOf(k),
		"two pieces, and no end":                     framesOf(k, "ab"),
		"a short piece ahead of another":             framesOf("ab", "cd", ""),
		"a short piece ahead of a long one":          framesOf("ab", k, ""),
		"a piece of 999 ahead of another":            framesOf(k[:999], "a", ""),
		"a short piece among long ones":              framesOf(k, k[1:], k, ""),
		"two short pieces behind a long one":         framesOf(k, "a", "b", ""),
		"a piece of 1001":                            framesOf(k+"a", ""),
		"a piece of 1024":                            framesOf(textOf(1024), ""),
		"a piece of 1001 behind another":             framesOf(k, k+"a", ""),
		"a byte behind the end":                      whole + "\x00",
		"bytes behind the end":                       whole + "torn",
		"an empty frame behind the end":              framesOf("ab", "", ""),
		"an empty frame behind an empty text":        framesOf("", ""),
		"an empty frame behind 1000 bytes":           framesOf(k, "", ""),
		"a frame behind the end":                     framesOf("ab", "", "cd"),
		"a piece behind the end, and another end":    framesOf(k, "", k, ""),
		"an empty frame ahead":                       framesOf("", "ab", ""),
		"a torn frame behind the end":                whole + frameOf("cd")[:7],
		"a turned body":                              string(turned),
		"a turned end":                               frameOf("ab") + "\x00\x00\xd2\x77\x61\xf0",
		"an end of other bytes":                      frameOf("ab") + "\x00\x00\x00\x00\x00\x00",
		"an end that says more than a frame may":     frameOf("ab") + "\x04\x01\xd2\x77\x61\xf1",
		"a piece that says more than a frame may":    "\x04\x01" + strings.Repeat("a", 1029) + frameOf(""),
		"a byte ahead":                               "\x00" + whole,
		"a text's bytes without frames":              "saga t { }",
		"an event's frame":                           logOf(api.Event{Kind: api.EvStart, Item: 1, Stamp: []int{1}}),
		"a torn piece ahead of what would be a text": frameOf("ab")[:5] + fileOf("ab"),
	}
}

// P11.1: texts of all sizes at which something changes, on disks of some files.
func TestBegin(t *testing.T) {
	for _, files := range []int{1, 2, 3, 65} {
		for _, size := range sizes() {
			d := newDisk(t, files, 70000)
			for i := range files - 1 {
				put(t, d, i, "other"[:1+i%5], i%2)
			}
			room := d.Room()
			text := textOf(size)
			expect(t, "Begin", checkBegin(t, d, text), api.OK)
			file := fileOf(text)
			if last := files - 1; string(d.Read(last)) != file || d.Synced(last) != len(file) || d.Room() != room-len(file) {
				t.Fatalf("%d bytes: %d in the file, %d synced, room %d", size, len(d.Read(last)), d.Synced(last), d.Room())
			}
			if want := size + (size+999)/1000*6 + 6; len(file) != want {
				t.Fatalf("%d bytes have %d, want %d", size, len(file), want)
			}
			if told, e := checkTold(t, d); told != text || e != api.OK {
				t.Fatalf("%d bytes: told %d, %d", size, len(told), e)
			}
		}
	}
}

// P11.1: the very bytes.
func TestBeginBytes(t *testing.T) {
	for text, want := range map[string]string{
		"":  "\x00\x00\xd2\x77\x61\xf1",
		"a": "\x00\x01a\x6c\x2b\x6b\xe0\x00\x00\xd2\x77\x61\xf1",
	} {
		d := newDisk(t, 2, 100)
		if e := Begin(d, text); e != api.OK || string(d.Read(1)) != want || len(d.Read(0)) != 0 {
			t.Errorf("Begin(%q): %d, %x", text, e, d.Read(1))
		}
	}
}

// P11.1: a text that is told already stays, and no write is done.
func TestBeginExists(t *testing.T) {
	for _, first := range []string{"", "a", textOf(999), textOf(1000), textOf(1001), textOf(65536)} {
		for _, synced := range []bool{true, false} {
			for _, second := range []string{"", "a", first, textOf(65536)} {
				d := newDisk(t, 2, 140000)
				file := fileOf(first)
				if synced {
					put(t, d, 1, file, len(file))
				} else {
					put(t, d, 1, file, 0)
				}
				d.Arm(0)
				expect(t, "Begin", checkBegin(t, d, second), api.ErrExists)
				if told, e := checkTold(t, d); told != first || e != api.OK || d.Down() {
					t.Fatalf("told %d bytes, %d", len(told), e)
				}
			}
		}
	}
}

// P11.1: what is no text's is cut off.
func TestBeginOver(t *testing.T) {
	for name, file := range noTexts() {
		for _, synced := range []int{0, len(file) / 2, len(file)} {
			for _, text := range []string{"", "a", textOf(2000)} {
				d := newDisk(t, 3, 9000)
				put(t, d, 0, "kept", 2)
				put(t, d, 2, file, synced)
				if _, e := checkTold(t, d); e != api.ErrNone {
					t.Fatalf("%s: told, %d", name, e)
				}
				expect(t, name, checkBegin(t, d, text), api.OK)
				if want := fileOf(text); string(d.Read(2)) != want || d.Synced(2) != len(want) || string(d.Read(0)) != "kept" || d.Synced(0) != 2 {
					t.Fatalf("%s: %x, %d synced", name, d.Read(2), d.Synced(2))
				}
				if told, e := checkTold(t, d); told != text || e != api.OK {
					t.Fatalf("%s: told %d bytes, %d", name, len(told), e)
				}
			}
		}
	}
}

// P11.1: where the power goes within the call, what was done ahead of that stands.
func TestBeginFuse(t *testing.T) {
	text := fileOf("ab")
	for _, c := range []struct {
		had    string
		fuse   int
		want   api.Errno
		file   string
		synced int
	}{
		{"", 0, api.ErrDown, "", 0},
		{"", 1, api.ErrDown, text, 0},
		{"", 2, api.OK, text, len(text)},
		{"", 3, api.OK, text, len(text)},
		{"", -1, api.OK, text, len(text)},
		{"torn", 0, api.ErrDown, "torn", 2},
		{"torn", 1, api.ErrDown, "", 0},
		{"torn", 2, api.ErrDown, text, 0},
		{"torn", 3, api.OK, text, len(text)},
		{"torn", 4, api.OK, text, len(text)},
	} {
		d := newDisk(t, 2, 100)
		put(t, d, 1, c.had, len(c.had)/2)
		d.Arm(c.fuse)
		expect(t, "Begin", checkBegin(t, d, "ab"), c.want)
		if string(d.Read(1)) != c.file || d.Synced(1) != c.synced || d.Down() != (c.want == api.ErrDown) {
			t.Errorf("%q, fuse %d: %x, %d synced", c.had, c.fuse, d.Read(1), d.Synced(1))
		}
	}
	for _, size := range sizes() { // however many frames there are, they are one write
		d := newDisk(t, 1, 70000)
		d.Arm(2)
		expect(t, "Begin", checkBegin(t, d, textOf(size)), api.OK)
		expect(t, "the third write", d.Sync(0), api.ErrDown)
	}
}

// P11.1: what is cut off makes room, and stays cut off where that is not enough.
func TestBeginFull(t *testing.T) {
	need := len(fileOf("ab"))
	for _, c := range []struct {
		had  string
		room int
		want api.Errno
		file string
	}{
		{"", need, api.OK, fileOf("ab")},
		{"", need - 1, api.ErrFull, ""},
		{"", 0, api.ErrFull, ""},
		{"torn", need, api.OK, fileOf("ab")},
		{"torn", need - 4, api.OK, fileOf("ab")},
		{"torn", need - 5, api.ErrFull, ""},
		{"torn", 0, api.ErrFull, ""},
	} {
		d := newDisk(t, 2, c.room+len(c.had))
		put(t, d, 1, c.had, 1&len(c.had))
		expect(t, "Begin", checkBegin(t, d, "ab"), c.want)
		if string(d.Read(1)) != c.file {
			t.Errorf("%q, room %d: %x", c.had, c.room, d.Read(1))
		}
		if _, e := checkTold(t, d); (e == api.OK) != (c.want == api.OK) {
			t.Errorf("%q, room %d: told, %d", c.had, c.room, e)
		}
	}
	for _, size := range sizes() {
		need := len(fileOf(textOf(size)))
		expect(t, "Begin", checkBegin(t, newDisk(t, 1, need), textOf(size)), api.OK)
		expect(t, "Begin", checkBegin(t, newDisk(t, 1, need-1), textOf(size)), api.ErrFull)
	}
}

// P11.1: of several errors the one that is named first.
func TestBeginFirst(t *testing.T) {
	big := textOf(65537)
	empty, told, torn := newDisk(t, 2, 20), newDisk(t, 2, 20), newDisk(t, 2, 20)
	put(t, told, 1, fileOf("ab"), 3)
	put(t, torn, 1, "torn", 2)
	for _, c := range []struct {
		name string
		d    *disk.Disk
		text string
		want api.Errno
	}{
		{"no disk, too big", nil, big, api.ErrNil},
		{"not made, too big", &disk.Disk{}, big, api.ErrNil},
		{"too big", empty, big, api.ErrBig},
		{"much too big", empty, textOf(1 << 20), api.ErrBig},
		{"too big, and told", told, big, api.ErrBig},
		{"too big, and torn", torn, big, api.ErrBig},
		{"too big, and down", dead(empty), big, api.ErrBig},
		{"too big, told and down", dead(told), big, api.ErrBig},
		{"too big for the room alone", empty, textOf(65536), api.ErrFull},
		{"told", told, "a", api.ErrExists},
		{"told, and down", dead(told), "a", api.ErrExists},
		{"told, and too much for the room", told, textOf(100), api.ErrExists},
		{"down", dead(empty), "a", api.ErrDown},
		{"down, and too much for the room", dead(empty), textOf(100), api.ErrDown},
		{"down, and torn", dead(torn), "a", api.ErrDown},
	} {
		if c.d.Files() == 0 {
			expect(t, c.name, Begin(c.d, c.text), c.want)
			continue
		}
		expect(t, c.name, checkBegin(t, c.d.Copy(), c.text), c.want)
	}
	d := empty.Copy()
	d.Arm(0)
	expect(t, "full, and no fuse left", checkBegin(t, d, textOf(100)), api.ErrFull)
	if d.Down() {
		t.Error("what is refused has burnt the fuse")
	}
	d = torn.Copy()
	d.Arm(1)
	expect(t, "full behind the cut", checkBegin(t, d, textOf(100)), api.ErrFull)
	if d.Down() || len(d.Read(1)) != 0 {
		t.Errorf("down %t, %q", d.Down(), d.Read(1))
	}
}

// P11.1
func TestToldNone(t *testing.T) {
	for name, file := range noTexts() {
		for _, files := range []int{1, 2, 65} {
			d := newDisk(t, files, 9000)
			put(t, d, files-1, file, len(file))
			for _, d := range []*disk.Disk{d, dead(d)} {
				if text, e := checkTold(t, d); text != "" || e != api.ErrNone {
					t.Errorf("%s: %q, %d", name, text, e)
				}
			}
		}
	}
}

// P11.1: the last file alone is asked, whatever it has of synced bytes, and whether there is power or not.
func TestToldLast(t *testing.T) {
	d := newDisk(t, 3, 200)
	put(t, d, 0, fileOf("a"), 0)
	put(t, d, 1, fileOf("b"), 0)
	if text, e := checkTold(t, d); text != "" || e != api.ErrNone {
		t.Errorf("%q, %d", text, e)
	}
	for synced := range len(fileOf("c")) + 1 {
		put(t, d, 2, fileOf("c"), synced)
		for _, d := range []*disk.Disk{d, dead(d)} {
			if text, e := checkTold(t, d); text != "c" || e != api.OK {
				t.Errorf("%q, %d", text, e)
			}
		}
	}
}

// P11.1: a text that was put by other means is told, if it has more bytes than Begin takes, too.
func TestToldLong(t *testing.T) {
	for _, size := range []int{65536, 65537, 66000, 66001, 200000} {
		d := newDisk(t, 1, 1<<20)
		put(t, d, 0, fileOf(textOf(size)), 0)
		if text, e := checkTold(t, d); text != textOf(size) || e != api.OK {
			t.Errorf("%d bytes: %d, %d", size, len(text), e)
		}
	}
}

// P11.1: all lists of up to four frames of lengths at which something changes, with nothing, and something, behind them.
func TestToldAll(t *testing.T) {
	told := 0
	var walk func(file string, deep int)
	walk = func(file string, deep int) {
		for _, more := range []string{"", "\x00", "\x00\x00\xd2\x77\x61"} {
			d := newDisk(t, 1, 9000)
			put(t, d, 0, file+more, len(file))
			if _, e := checkTold(t, d); e == api.OK {
				told++
			}
		}
		for _, size := range []int{0, 1, 999, 1000, 1001, 1024} {
			if deep > 0 {
				walk(file+frameOf(textOf(size)), deep-1)
			}
		}
	}
	walk("", 4)
	if want := 1 + 3 + 3 + 3; told != want { // up to three pieces, of which all but the last one have 1000 bytes
		t.Errorf("%d were told, want %d", told, want)
	}
}

// P11.1: cut off anywhere, or with any bit turned, a text is none.
func TestToldTorn(t *testing.T) {
	for _, text := range []string{"", "a", "saga t { }", textOf(1000), textOf(1003)} {
		file := fileOf(text)
		for end := range file {
			d := newDisk(t, 1, 2000)
			put(t, d, 0, file[:end], 0)
			if _, e := checkTold(t, d); e != api.ErrNone {
				t.Fatalf("%d of %d bytes: %d", end, len(file), e)
			}
		}
		for bit := 0; bit < len(file)*8; bit += 1 + len(file)/50 {
			turned := []byte(file)
			turned[bit/8] ^= 1 << (bit % 8)
			d := newDisk(t, 1, 2000)
			put(t, d, 0, string(turned), 0)
			if _, e := checkTold(t, d); e != api.ErrNone {
				t.Fatalf("bit %d of %d bytes: %d", bit, len(file), e)
			}
		}
	}
}

// P11.1: behind a crash within Begin there is the whole text, or none; and it may be begun again.
func TestBeginCrash(t *testing.T) {
	text := textOf(1500)
	file := fileOf(text)
	for fuse := range 4 {
		for _, keep := range []int{0, 1, 500, 1006, 1012, len(file) - 6, len(file) - 1, len(file)} {
			d := newDisk(t, 2, 4000)
			put(t, d, 1, "torn", 4)
			d.Arm(fuse)
			checkBegin(t, d, text)
			d.Crash([]int{0, keep})
			told, e := checkTold(t, d)
			if whole := fuse == 3 || fuse == 2 && keep == len(file); whole && (told != text || e != api.OK) || !whole && e != api.ErrNone {
				t.Fatalf("fuse %d, %d kept: %d bytes, %d", fuse, keep, len(told), e)
			}
			if e == api.ErrNone {
				expect(t, "Begin again", checkBegin(t, d, text), api.OK)
			}
		}
	}
}

// Pieces that are cut out of a text have no room of it behind them.
func TestPieces(t *testing.T) {
	text := []byte(textOf(2500))
	var lengths []int
	for piece := range pieces(text) {
		lengths = append(lengths, len(piece))
		if cap(piece) != len(piece) {
			t.Errorf("a piece of %d bytes has room for %d", len(piece), cap(piece))
		}
	}
	if !slices.Equal(lengths, []int{1000, 1000, 500}) {
		t.Errorf("pieces of %d bytes", lengths)
	}
	for range pieces(text) {
		break
	}
}
