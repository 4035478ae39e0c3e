package lex

import (
	"fmt"
	"slices"
	"strings"
	"testing"
	"unicode/utf8"

	"argosy/api"
)

// firstOf tells the code point that a text begins with, and its bytes' count: 0 if there is none.
func firstOf(s string) (rune, int) {
	r, n := utf8.DecodeRuneInString(s)
	if r == utf8.RuneError && n < 3 {
		return 0, 0
	}
	return r, n
}

func isLetter(r rune) bool {
	return r >= 'a' && r <= 'z' || r >= 'A' && r <= 'Z' || r == '_' || r >= 0x80
}

func isDigit(r rune) bool { return r >= '0' && r <= '9' }

// run tells how many bytes of code points that are let through a text begins with.
func run(s string, through func(r rune) bool) int {
	n := 0
	for {
		r, more := firstOf(s[n:])
		if more == 0 || !through(r) {
			return n
		}
		n += more
	}
}

// expect lexes as the chapter's words say, piece by piece from the front on; it shares nothing with the package under test.
func expect(s string) ([]api.Token, int, api.Errno) {
	if len(s) > 65536 {
		return nil, 0, api.ErrBig
	}
	var l []api.Token
	for at := 0; at < len(s); {
		r, n := firstOf(s[at:])
		switch {
		case n == 0:
			return nil, at, api.ErrFormat
		case r == 9 || r == 10 || r == 13 || r == 32:
		case r == '#':
			n = run(s[at:], func(r rune) bool { return r != 10 })
		case r == '{' || r == '}' || r == '(' || r == ')' || r == ';' || r == ',':
			l = append(l, api.Token{Kind: api.TokenMark, Text: s[at : at+1], At: at})
		case isLetter(r):
			n = run(s[at:], func(r rune) bool { return isLetter(r) || isDigit(r) })
			if n > 24 {
				return nil, at, api.ErrBig
			}
			l = append(l, api.Token{Kind: api.TokenName, Text: s[at : at+n], At: at})
		default:
			return nil, at, api.ErrSyntax
		}
		at += n
	}
	return l, len(s), api.OK
}

// short tells a text that may be long.
func short(s string) string {
	if len(s) > 80 {
		return fmt.Sprintf("%q.. (%d bytes)", s[:80], len(s))
	}
	return fmt.Sprintf("%q", s)
}

func checkLex(t *testing.T, s string) {
	t.Helper()
	l, at, e := Lex(s)
	wantL, wantAt, wantE := expect(s)
	if e != wantE || at != wantAt || !slices.Equal(l, wantL) {
		t.Errorf("Lex(%s) = %v, %d, %d; want %v, %d, %d", short(s), l, at, int(e), wantL, wantAt, int(wantE))
	}
}

// each hands on all texts of at most most pieces.
func each(pieces []string, most int, do func(s string)) {
	var grow func(s string, left int)
	grow = func(s string, left int) {
		do(s)
		if left == 0 {
			return
		}
		for _, p := range pieces {
			grow(s+p, left-1)
		}
	}
	grow("", most)
}

// bare tells tokens without their places.
func bare(l []api.Token) []api.Token {
	var out []api.Token
	for _, x := range l {
		out = append(out, api.Token{Kind: x.Kind, Text: x.Text})
	}
	return out
}

func name(s string) api.Token { return api.Token{Kind: api.TokenName, Text: s} }
func mark(s string) api.Token { return api.Token{Kind: api.TokenMark, Text: s} }

// lists are all lists of at most most tokens of some names and marks.
func lists(most int) [][]api.Token {
	some := []api.Token{name("a"), name("_9"), name("or"), name("\u00fc1\ufffd"), name(strings.Repeat("x", 24)), mark("{"), mark("}"), mark("("), mark(")"), mark(";"), mark(",")}
	out := [][]api.Token{nil}
	for from := 0; most > 0; most-- {
		to := len(out)
		for _, l := range out[from:to] {
			for _, x := range some {
				out = append(out, append(slices.Clone(l), x))
			}
		}
		from = to
	}
	return out
}

func TestLexExamples(t *testing.T) {
	l, n, e := Lex("a1{b, # c \n\u00fc}")
	want := []api.Token{{Kind: api.TokenName, Text: "a1", At: 0}, {Kind: api.TokenMark, Text: "{", At: 2}, {Kind: api.TokenName, Text: "b", At: 3}, {Kind: api.TokenMark, Text: ",", At: 4}, {Kind: api.TokenName, Text: "\u00fc", At: 11}, {Kind: api.TokenMark, Text: "}", At: 13}}
	if e != api.OK || n != 14 || !slices.Equal(l, want) {
		t.Error(l, n, int(e))
	}
	l, n, e = Lex("saga t { ( step a undo b ; ) }")
	if e != api.OK || n != 30 || Join(l) != "saga t { ( step a undo b ; ) }" || len(l) != 11 {
		t.Error(l, n, int(e))
	}
}

func TestLexNoText(t *testing.T) {
	for _, s := range []string{"", " ", "\t\n\r ", "#", "#\n", "# a { !\n#\n  # \u00fc"} {
		if l, n, e := Lex(s); len(l) != 0 || n != len(s) || e != api.OK {
			t.Errorf("%q: %v %d %d", s, l, n, int(e))
		}
	}
}

func TestLexErrors(t *testing.T) {
	x := func(n int) string { return strings.Repeat("x", n) }
	u := func(n int) string { return strings.Repeat("\u00fc", n) }
	for _, c := range []struct {
		s  string
		at int
		e  api.Errno
	}{
		// Another code point, where a name or mark might begin.
		{"a!", 1, api.ErrSyntax}, {"12", 0, api.ErrSyntax}, {"\"12\"", 0, api.ErrSyntax}, {" 9a", 1, api.ErrSyntax}, {"{9", 1, api.ErrSyntax}, {"a 1", 2, api.ErrSyntax}, {"a#\n1", 3, api.ErrSyntax},
		{"a.b", 1, api.ErrSyntax}, {"a, .", 3, api.ErrSyntax}, {"[", 0, api.ErrSyntax}, {"a:b", 1, api.ErrSyntax}, {"\x00", 0, api.ErrSyntax}, {"a\x7f", 1, api.ErrSyntax}, {"\u00fc!", 2, api.ErrSyntax}, {"a\vb", 1, api.ErrSyntax},
		// No code point: at the front, within a name, behind a mark, in a remark, behind one, at the end.
		{"\xff", 0, api.ErrFormat}, {"ab\xffcd", 2, api.ErrFormat}, {"{\x80", 1, api.ErrFormat}, {"# \xff", 2, api.ErrFormat}, {"a #\xff\n!", 3, api.ErrFormat}, {"#\n\xff", 2, api.ErrFormat}, {"a\xc3", 1, api.ErrFormat}, {"a \xc3a", 2, api.ErrFormat},
		{"\xed\xa0\x80", 0, api.ErrFormat}, {"\xc0\x80", 0, api.ErrFormat}, {"\xef\xbf", 0, api.ErrFormat}, {"\ufffd\xef\xbf", 3, api.ErrFormat},
		// A bad byte ends a name: what stands ahead of it is the name, and may be too long or not.
		{x(24) + "\xff", 24, api.ErrFormat}, {x(24) + "\xff" + x(9), 24, api.ErrFormat}, {x(20) + "\xff" + x(20), 20, api.ErrFormat}, {x(25) + "\xff", 0, api.ErrBig}, {" " + u(13) + "\xff", 1, api.ErrBig}, {x(24) + "\xc3", 24, api.ErrFormat},
		// A name that is too long, by its own place.
		{x(25), 0, api.ErrBig}, {"a " + x(25), 2, api.ErrBig}, {"{" + x(1000) + "!", 1, api.ErrBig}, {u(13), 0, api.ErrBig}, {x(23) + "\u00fc", 0, api.ErrBig}, {x(24) + "1", 0, api.ErrBig}, {"#\n " + x(21) + "\U0001f6a2", 3, api.ErrBig},
		// The first that can't be is told.
		{"! " + x(25) + "\xff", 0, api.ErrSyntax}, {x(25) + " !\xff", 0, api.ErrBig}, {"\xff!" + x(25), 0, api.ErrFormat}, {x(24) + "!\xff", 24, api.ErrSyntax}, {"1\xff", 0, api.ErrSyntax}, {"#!\n#\xff!", 4, api.ErrFormat},
	} {
		if l, at, e := Lex(c.s); len(l) != 0 || at != c.at || e != c.e {
			t.Errorf("%q: %v %d %d; want %d %d", c.s, l, at, int(e), c.at, int(c.e))
		}
	}
}

func TestLexLimits(t *testing.T) {
	for _, piece := range []string{" ", "a ", "{", "\u00fc ", "#", "!", "\xff", "x"} {
		most := strings.Repeat(piece, 65536/len(piece)+1)
		checkLex(t, most[:65535])
		checkLex(t, most[:65536])
		if l, at, e := Lex(most[:65536] + " "); len(l) != 0 || at != 0 || e != api.ErrBig {
			t.Errorf("%q: %d %d", piece, at, int(e))
		}
	}
	if l, n, e := Lex(strings.Repeat("{", 65536)); len(l) != 65536 || n != 65536 || e != api.OK || l[65535].At != 65535 {
		t.Error(len(l), n, int(e))
	}
	if l, n, e := Lex(strings.Repeat(" ", 65535) + "a"); len(l) != 1 || n != 65536 || e != api.OK {
		t.Error(len(l), n, int(e))
	}
	if _, at, e := Lex(strings.Repeat("!", 1<<20)); at != 0 || e != api.ErrBig {
		t.Error(at, int(e))
	}
	for _, s := range []string{strings.Repeat("x", 24), strings.Repeat("\u00fc", 12), strings.Repeat("\u20ac", 8), strings.Repeat("\U0001f6a2", 6), "x" + strings.Repeat("9", 23), strings.Repeat("x", 22) + "\u00fc"} {
		for _, around := range []string{"%s", " %s ", "{%s}", "%s#", "#\n%s"} {
			text := fmt.Sprintf(around, s)
			if l, _, e := Lex(text); e != api.OK || !slices.Contains(bare(l), name(s)) {
				t.Errorf("%q: %v %d", text, l, int(e))
			}
			checkLex(t, fmt.Sprintf(around, s+"1"))
		}
	}
}

func TestLexRemarks(t *testing.T) {
	for _, c := range []struct{ s, want string }{
		{"a # b", "a"}, {"a#b\nc", "a c"}, {"a#b\rc", "a"}, {"a##\n#\nb", "a b"}, {"#{\n}", "}"}, {"# 1 ! \x00 \u00fc " + strings.Repeat("x", 99) + "\na", "a"}, {"a#\n1", ""},
	} {
		l, _, e := Lex(c.s)
		if Join(l) != c.want || (e == api.OK) != (c.want != "") {
			t.Errorf("%q: %v %d", c.s, l, int(e))
		}
	}
}

func TestLexAllShortTexts(t *testing.T) {
	each([]string{"a", "7", "\u00fc", "#", "\n", " ", "{", ",", "!", ".", "\xff", "\xc3", "\ufffd"}, 4, func(s string) { checkLex(t, s) })
	each([]string{strings.Repeat("x", 11), "9", "\u00fc", " ", "#", "\n", "\xff", "!"}, 5, func(s string) { checkLex(t, s) })
}

func TestLexEachCodePoint(t *testing.T) {
	for r := rune(0); r <= 0x10ffff; r++ {
		if r >= 0xd800 && r <= 0xdfff || r > 0x3000 && r%0x11 != 0 {
			continue
		}
		c := string(r)
		for _, s := range []string{c, "a" + c + "b", "{" + c, "#" + c + "\nb", c + "!"} {
			checkLex(t, s)
		}
	}
	for b := 0; b < 256; b++ {
		checkLex(t, string([]byte{byte(b)}))
		checkLex(t, string([]byte{'a', byte(b), 'a'}))
		checkLex(t, string([]byte{'#', byte(b), 'a', '\n', 'b'}))
	}
}

func TestLexAnswersNewMemory(t *testing.T) {
	l, _, _ := Lex("a { b }")
	want := slices.Clone(l)
	for i := range l {
		l[i] = api.Token{Kind: 9, Text: "z", At: 99}
	}
	if m, _, _ := Lex("a { b }"); !slices.Equal(m, want) {
		t.Error(m)
	}
}

func TestJoin(t *testing.T) {
	for _, c := range []struct {
		l    []api.Token
		want string
	}{
		{nil, ""}, {[]api.Token{}, ""}, {[]api.Token{name("a")}, "a"}, {[]api.Token{name("a"), mark("{"), name("b")}, "a { b"}, {[]api.Token{mark("("), mark(")"), mark(")")}, "( ) )"},
		// What is no token's text is told as it is.
		{[]api.Token{{}}, ""}, {[]api.Token{{}, {}, {}}, "  "}, {[]api.Token{name(" "), name("\xff"), name("a#")}, "  \xff a#"}, {[]api.Token{{Kind: -1, Text: "q", At: -7}, {Kind: 7, Text: "\n", At: 1 << 60}}, "q \n"},
	} {
		if s := Join(c.l); s != c.want {
			t.Errorf("%v: %q; want %q", c.l, s, c.want)
		}
	}
	room := []api.Token{name("a"), mark("{"), name("behind")}
	want := slices.Clone(room)
	if s := Join(room[:2]); s != "a {" || !slices.Equal(room, want) {
		t.Error(s, room)
	}
}

func TestName(t *testing.T) {
	isName := func(s string) bool {
		r, n := firstOf(s)
		return n > 0 && isLetter(r) && len(s) <= 24 && run(s, func(r rune) bool { return isLetter(r) || isDigit(r) }) == len(s)
	}
	check := func(s string) {
		if got := Name(s); got != isName(s) {
			t.Errorf("%s: %v", short(s), got)
		}
	}
	each([]string{"a", "Z", "_", "9", "\u00fc", "\ufffd", " ", "#", "\n", "{", "!", "\xff", "\xc3"}, 4, check)
	each([]string{"x", "\u00fc", "9", " ", "\xff"}, 3, func(s string) {
		for _, n := range []int{18, 20, 21, 22, 23, 24} {
			check(strings.Repeat("y", n) + s)
			check(s + strings.Repeat("y", n))
		}
	})
	for _, s := range []string{"a1", "_", "or", "saga", "\u00fc9", strings.Repeat("x", 24), strings.Repeat("\u00fc", 12), strings.Repeat("\u20ac", 8), "\ufffd"} {
		if !Name(s) {
			t.Errorf("%q", s)
		}
	}
	for _, s := range []string{"", "1a", "1", "a b", " a", "a ", "a#", "a\n", "a!", "{", "a.b", strings.Repeat("x", 25), "x" + strings.Repeat("\u00fc", 12), strings.Repeat("a", 65536), strings.Repeat(" ", 65537), strings.Repeat("a", 65537), "a\xff", "\xff", "a\xc3", "\x00", "a\x7f"} {
		if Name(s) {
			t.Errorf("%q", s)
		}
	}
}

func TestWord(t *testing.T) {
	words := []string{"saga", "step", "sub", "undo", "after", "vital", "loose", "or"}
	for _, w := range words {
		if !Word(w) || !Name(w) {
			t.Error(w)
		}
		for _, s := range []string{w[:len(w)-1], w[1:], w + "s", w + " ", " " + w, strings.ToUpper(w), strings.ToUpper(w[:1]) + w[1:], w + w, w + "\x00", w + "\n"} {
			if Word(s) {
				t.Errorf("%q", s)
			}
		}
	}
	each([]string{"a", "o", "r", "s", "u", "b"}, 4, func(s string) {
		if Word(s) != slices.Contains(words, s) {
			t.Error(s)
		}
	})
	for _, s := range []string{"", "a", "and", "not", "idle", "{", ";", "sagA", "\xff", strings.Repeat("or", 65536)} {
		if Word(s) {
			t.Error(short(s))
		}
	}
}

// P2.4.
func TestThereAndBack(t *testing.T) {
	for _, l := range lists(4) {
		s := Join(l)
		m, n, e := Lex(s)
		if e != api.OK || n != len(s) || !slices.Equal(bare(m), l) {
			t.Fatalf("%q: %v %d %d", s, m, n, int(e))
		}
		for _, x := range m {
			if s[x.At:x.At+len(x.Text)] != x.Text {
				t.Fatalf("%q: %v", s, x)
			}
		}
	}
}

// P2.5: between two names something must stand; elsewhere there need be nothing.
func TestBlanks(t *testing.T) {
	gaps := []string{" ", "\t", "\n", "\r", " \r\n\t ", "#\n", "# a { ! \u00fc\n", " #\n#\n "}
	for _, l := range lists(3) {
		for _, gap := range gaps {
			s := gap
			var want []api.Token
			for _, x := range l {
				want = append(want, api.Token{Kind: x.Kind, Text: x.Text, At: len(s)})
				s += x.Text + gap
			}
			for _, end := range []string{"", "#", "# a", "#}"} {
				if m, n, e := Lex(s + end); e != api.OK || n != len(s+end) || !slices.Equal(m, want) {
					t.Fatalf("%q: %v %d %d", s+end, m, n, int(e))
				}
			}
		}
		s := ""
		for i, x := range l {
			if i > 0 && x.Kind == api.TokenName && l[i-1].Kind == api.TokenName {
				s += "#\n"
			}
			s += x.Text
		}
		if m, _, e := Lex(s); e != api.OK || !slices.Equal(bare(m), l) {
			t.Fatalf("%q: %v %d", s, m, int(e))
		}
	}
}

// P2.6.
func TestCut(t *testing.T) {
	each([]string{"ab1", "\u00fc", "{", ";", " ", "#", "\n"}, 6, func(s string) {
		l, _, e := Lex(s)
		if e != api.OK {
			return
		}
		for i, x := range l {
			end := x.At + len(x.Text)
			if m, n, e := Lex(s[:end]); e != api.OK || n != end || !slices.Equal(m, l[:i+1]) {
				t.Fatalf("%q cut at %d: %v %d %d", s, end, m, n, int(e))
			}
		}
	})
}
