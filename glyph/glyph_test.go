package glyph

import (
	"math"
	"slices"
	"strings"
	"testing"

	"argosy/api"
)

// bytesOf tells a code point's bytes as the chapter's words do, bit by bit, so that it shares nothing with the package under test.
func bytesOf(r int) string {
	low := func(shift int) byte { return byte(0x80 + r>>shift&0x3f) }
	switch {
	case r < 0 || r > 0x10ffff || r >= 0xd800 && r <= 0xdfff:
		return ""
	case r < 0x80:
		return string([]byte{byte(r)})
	case r < 0x800:
		return string([]byte{byte(0xc0 + r>>6), low(0)})
	case r < 0x10000:
		return string([]byte{byte(0xe0 + r>>12), low(6), low(0)})
	}
	return string([]byte{byte(0xf0 + r>>18), low(12), low(6), low(0)})
}

// firstOf tells the code point whose bytes a text begins with, and how many these are: 0 if there is none.
func firstOf(s string) (int, int) {
	for n := 1; n <= 4 && n <= len(s); n++ {
		r := int(s[0])
		if n > 1 {
			r = int(s[0]) & (0xff >> (n + 1))
		}
		for i := 1; i < n; i++ {
			r = r<<6 + int(s[i])&0x3f
		}
		if bytesOf(r) == s[:n] {
			return r, n
		}
	}
	return 0, 0
}

// split tells a text's code points up to its first bad byte, and their places, the end of the last one included.
func split(s string) (l, at []int) {
	at = []int{0}
	for place := 0; place < len(s); {
		r, n := firstOf(s[place:])
		if n == 0 {
			break
		}
		place += n
		l, at = append(l, r), append(at, place)
	}
	return l, at
}

// borders are the numbers at which a width or a class changes, and such as are no code points.
func borders() []int {
	return []int{
		math.MinInt, math.MinInt + 1, math.MinInt32, -0x110000, -0x80, -1, 0, 1, 8, 9, 10, 11, 12, 13, 14, 0x1f, 0x20, 0x21,
		'/', '0', '9', ':', '@', 'A', 'Z', '[', '^', '_', '`', 'a', 'z', '{', '~', 0x7f, 0x80, 0x81, 0xe9,
		0x7fe, 0x7ff, 0x800, 0x801, 0x20ac, 0xd7fe, 0xd7ff, 0xd800, 0xd801, 0xdbff, 0xdc00, 0xdffe, 0xdfff, 0xe000, 0xe001,
		0xfffc, 0xfffd, 0xfffe, 0xffff, 0x10000, 0x10001, 0x1f600, 0x10fffe, 0x10ffff, 0x110000, 0x110001,
		math.MaxInt32, 1<<32 + 'a', 1<<40 + 0xe9, math.MaxInt - 1, math.MaxInt,
	}
}

// edgeTexts are all texts of up to four bytes out of those at which a code point's bytes change.
func edgeTexts() []string {
	edges := []byte{0, 'a', 0x7f, 0x80, 0x8f, 0x90, 0x9f, 0xa0, 0xbf, 0xc0, 0xc1, 0xc2, 0xdf, 0xe0, 0xed, 0xef, 0xf0, 0xf4, 0xf5, 0xff}
	all := []string{""}
	for from, n := 0, 0; n < 4; n++ {
		upto := len(all)
		for ; from < upto; from++ {
			for _, b := range edges {
				all = append(all, all[from]+string([]byte{b}))
			}
		}
	}
	return all
}

// namedTexts are such as the document names, and some longer ones.
func namedTexts() []string {
	return []string{
		"", "a", "a\xc3\xa9\xe2\x82\xac", "a\xc3", "a\xc3\xa9b", "a\xc3\xa9\xff", "\xff", "ab\xff", "\xffab", "a\xff\xfeb",
		"\xc0\x80", "\xc1\xbf", "\xe0\x80\x80", "\xe0\x9f\xbf", "\xf0\x80\x80\x80", "\xf0\x8f\xbf\xbf", "x\xc0\xaf",
		"\xed\x9f\xbf", "\xed\xa0\x80", "\xed\xbf\xbf", "\xee\x80\x80", "a\xed\xa0\x80", "\xed\xa0\xbd\xed\xb8\x80",
		"\xf4\x8f\xbf\xbf", "\xf4\x90\x80\x80", "\xf8\x88\x80\x80\x80", "\xfc\x84\x80\x80\x80\x80",
		"x\xe2", "x\xe2\x82", "x\xf0\x9f", "x\xf0\x9f\x98", "x\xf0\x9f\x98\x80", "\xe2\x82\xac\xac", "\x80", "a\xbf",
		"\xef\xbf\xbd", "a\xef\xbf\xbd\xef\xbf\xbdb", "\xef\xbf\xbd\xff", "\xef\xbf", "\xff\xef\xbf\xbd", "\xef\xbf\xbe",
		"\x00\x00", "\r\n\t ", strings.Repeat("\xf0\x9f\x98\x80", 300), strings.Repeat("a\xc3\xa9", 300) + "\xe2\x82",
	}
}

func everyText() []string { return append(edgeTexts(), namedTexts()...) }

// P1.1
func TestRunes(t *testing.T) {
	for _, s := range everyText() {
		want, at := split(s)
		wantErr := api.OK
		if at[len(at)-1] < len(s) {
			want, wantErr = nil, api.ErrFormat
		}
		if l, e := Runes(s); e != wantErr || !slices.Equal(l, want) {
			t.Errorf("Runes(%x) = %x, %d, not %x, %d", s, l, e, want, wantErr)
		}
	}
}

// P1.1
func TestRunesExamples(t *testing.T) {
	if l, e := Runes("a\xc3\xa9\xe2\x82\xac"); e != api.OK || !slices.Equal(l, []int{0x61, 0xe9, 0x20ac}) {
		t.Errorf("%x %d", l, e)
	}
	if l, e := Runes("\xef\xbf\xbd"); e != api.OK || !slices.Equal(l, []int{0xfffd}) {
		t.Errorf("%x %d", l, e)
	}
	for _, s := range []string{"a\xc3", "\xc0\x80", "\xed\xa0\x80", "\xf4\x90\x80\x80", "\xff", "ab\x80"} {
		if l, e := Runes(s); e != api.ErrFormat || len(l) != 0 {
			t.Errorf("Runes(%x) = %x, %d", s, l, e)
		}
	}
}

// P1.1
func TestRunesNewMemory(t *testing.T) {
	first, _ := Runes("abc")
	second, _ := Runes("abc")
	first[0] = 'x'
	first = append(first[:1], 'y')
	if !slices.Equal(second, []int{'a', 'b', 'c'}) || first[1] != 'y' {
		t.Errorf("%x %x", first, second)
	}
}

// P1.1
func TestText(t *testing.T) {
	for _, r := range borders() {
		want, wantErr := "a"+bytesOf(r)+"b", api.OK
		if bytesOf(r) == "" {
			want, wantErr = "", api.ErrArg
		}
		if s, e := Text([]int{'a', r, 'b'}); s != want || e != wantErr {
			t.Errorf("Text(a, %x, b) = %x, %d, not %x, %d", r, s, e, want, wantErr)
		}
	}
	for _, l := range [][]int{nil, {}} {
		if s, e := Text(l); s != "" || e != api.OK {
			t.Errorf("%x %d", s, e)
		}
	}
	for _, l := range [][]int{{0xd800}, {'a', 0xdfff}, {-1, 'a'}, {0x110000}, {'a', 1<<32 + 'a'}, {-1, 0xd800}} {
		if s, e := Text(l); s != "" || e != api.ErrArg {
			t.Errorf("Text(%x) = %x, %d", l, s, e)
		}
	}
}

// P1.1
func TestTextLeavesItsList(t *testing.T) {
	room := []int{'a', 0xe9, 'c', 'd'}
	if s, e := Text(room[:2]); s != "a\xc3\xa9" || e != api.OK {
		t.Errorf("%x %d", s, e)
	}
	if !slices.Equal(room, []int{'a', 0xe9, 'c', 'd'}) {
		t.Errorf("%x", room)
	}
}

// P1.2
func TestWidth(t *testing.T) {
	for r := -0x100; r <= 0x110100; r++ {
		if w := Width(r); w != len(bytesOf(r)) {
			t.Fatalf("Width(%x) = %d", r, w)
		}
	}
	for _, r := range borders() {
		if w := Width(r); w != len(bytesOf(r)) {
			t.Errorf("Width(%x) = %d", r, w)
		}
	}
}

// P1.2
func TestWidthBorders(t *testing.T) {
	for _, c := range []struct{ r, w int }{
		{-1, 0}, {0, 1}, {0x7f, 1}, {0x80, 2}, {0x7ff, 2}, {0x800, 3}, {0xd7ff, 3}, {0xd800, 0}, {0xdfff, 0}, {0xe000, 3},
		{0xffff, 3}, {0x10000, 4}, {0x10ffff, 4}, {0x110000, 0}, {math.MinInt, 0}, {math.MaxInt, 0}, {1<<32 + 'a', 0},
	} {
		if w := Width(c.r); w != c.w {
			t.Errorf("Width(%x) = %d", c.r, w)
		}
	}
}

// classOf tells a number's class by lists of all that are of it.
func classOf(r int) api.Class {
	switch {
	case bytesOf(r) == "":
		return api.Other
	case r >= 0x80 || strings.IndexByte("abcdefghijklmnopqrstuvwxyzABCDEFGHIJKLMNOPQRSTUVWXYZ_", byte(r)) >= 0:
		return api.Letter
	case strings.IndexByte("0123456789", byte(r)) >= 0:
		return api.Digit
	case strings.IndexByte("\x09\x0a\x0d\x20", byte(r)) >= 0:
		return api.Blank
	case strings.IndexByte("!\"#$%&'()*+,-./:;<=>?@[\\]^`{|}~", byte(r)) >= 0:
		return api.Mark
	}
	return api.Other
}

// P1.2
func TestClass(t *testing.T) {
	for r := -0x100; r <= 0x110100; r++ {
		if c := Class(r); c != classOf(r) {
			t.Fatalf("Class(%x) = %d", r, c)
		}
	}
	for _, r := range borders() {
		if c := Class(r); c != classOf(r) {
			t.Errorf("Class(%x) = %d", r, c)
		}
	}
}

// P1.3
func TestBad(t *testing.T) {
	for _, s := range everyText() {
		_, at := split(s)
		want := at[len(at)-1]
		if want == len(s) {
			want = -1
		}
		if bad := Bad(s); bad != want {
			t.Errorf("Bad(%x) = %d, not %d", s, bad, want)
		}
	}
}

// P1.3
func TestBadExamples(t *testing.T) {
	for _, c := range []struct {
		s   string
		bad int
	}{
		{"", -1}, {"a\xc3", 1}, {"a\xc3\xa9", -1}, {"\xc0\x80", 0}, {"\xe0\x9f\xbf", 0}, {"\xf0\x8f\xbf\xbf", 0},
		{"a\xed\xa0\x80", 1}, {"\xf4\x90\x80\x80", 0}, {"x\xe2\x82", 1}, {"\xef\xbf\xbd", -1}, {"\xef\xbf\xbd\xff", 3},
		{"\xe2\x82\xacx\xf0\x9f\x98", 4}, {"\xff\xff", 0},
	} {
		if bad := Bad(c.s); bad != c.bad {
			t.Errorf("Bad(%x) = %d", c.s, bad)
		}
	}
}

// P1.3
func TestCut(t *testing.T) {
	for _, s := range everyText() {
		_, at := split(s)
		for _, n := range []int{math.MinInt, -1, 0, 1, 2, 3, 4, 5, 299, 300, 301, 600, 601, math.MaxInt} {
			place := at[min(max(n, 0), len(at)-1)]
			if first, rest := Cut(s, n); first != s[:place] || rest != s[place:] {
				t.Errorf("Cut(%x, %d) = %x, %x", s, n, first, rest)
			}
		}
	}
}

// P1.3
func TestCutExamples(t *testing.T) {
	for _, c := range []struct {
		s           string
		n           int
		first, rest string
	}{
		{"a\xc3\xa9b", 2, "a\xc3\xa9", "b"}, {"a\xc3\xa9b", 0, "", "a\xc3\xa9b"}, {"a\xc3\xa9b", -7, "", "a\xc3\xa9b"},
		{"a\xc3\xa9b", 3, "a\xc3\xa9b", ""}, {"a\xc3\xa9b", 99, "a\xc3\xa9b", ""}, {"a\xffb", 3, "a", "\xffb"},
		{"\xffab", 1, "", "\xffab"}, {"", 1, "", ""}, {"", -1, "", ""}, {"\xef\xbf\xbdb", 1, "\xef\xbf\xbd", "b"},
	} {
		if first, rest := Cut(c.s, c.n); first != c.first || rest != c.rest {
			t.Errorf("Cut(%x, %d) = %x, %x", c.s, c.n, first, rest)
		}
	}
}

// P1.4
func TestThereAndBack(t *testing.T) {
	var all []int
	for r := 0; r <= 0x10ffff; r++ {
		if bytesOf(r) != "" {
			all = append(all, r)
		}
	}
	s, e := Text(all)
	if e != api.OK {
		t.Fatal(e)
	}
	if l, e := Runes(s); e != api.OK || !slices.Equal(l, all) {
		t.Errorf("%d code points, %d", len(l), e)
	}
	for _, r := range all {
		s, e := Text([]int{r})
		l, f := Runes(s)
		if e != api.OK || f != api.OK || s != bytesOf(r) || !slices.Equal(l, []int{r}) {
			t.Fatalf("%x: %x %d, %x %d", r, s, e, l, f)
		}
	}
	for _, s := range everyText() {
		if l, e := Runes(s); e == api.OK {
			if back, e := Text(l); back != s || e != api.OK {
				t.Errorf("%x: %x %d", s, back, e)
			}
		}
	}
}

// P1.5
func TestJoined(t *testing.T) {
	var right []string
	for _, s := range namedTexts() {
		if Bad(s) < 0 {
			right = append(right, s)
		}
	}
	for _, r := range borders() {
		if b := bytesOf(r); b != "" {
			right = append(right, b)
		}
	}
	for _, a := range right {
		for _, b := range right {
			ahead, _ := split(a)
			behind, _ := split(b)
			if l, e := Runes(a + b); e != api.OK || !slices.Equal(l, slices.Concat(ahead, behind)) {
				t.Errorf("Runes(%x and %x) = %x, %d", a, b, l, e)
			}
		}
	}
}

// P1.6
func TestCutJoins(t *testing.T) {
	for _, s := range everyText() {
		for _, n := range []int{-1, 0, 1, 2, 3, 4, 5, 1000} {
			first, rest := Cut(s, n)
			if first+rest != s || Bad(first) != -1 {
				t.Errorf("Cut(%x, %d) = %x, %x", s, n, first, rest)
			}
			if l, e := Runes(first); e != api.OK || len(l) > max(n, 0) {
				t.Errorf("Runes(%x) = %x, %d", first, l, e)
			}
		}
	}
}
