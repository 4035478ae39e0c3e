// Package glyph is layer 1: see shared/doc/01-glyph.md.
package glyph

import (
	"strings"
	"unicode/utf8"

	"argosy/api"
)

// badRune is what a range over a text tells of a byte at which no code point's bytes stand; it is a code point too, with the bytes of badRuneText.
const (
	badRune     rune = 0xfffd
	badRuneText      = "\xef\xbf\xbd"
)

// Runes tells a text's code points.
func Runes(s string) ([]int, api.Errno) {
	if Bad(s) >= 0 {
		return nil, api.ErrFormat
	}
	var l []int
	for _, r := range s {
		l = append(l, int(r))
	}
	return l, api.OK
}

// Text tells the text of code points.
func Text(l []int) (string, api.Errno) {
	var b []byte
	for _, r := range l {
		// Asked ahead of the conversion: a rune has fewer bits than an int, and would wrap round.
		if Width(r) == 0 {
			return "", api.ErrArg
		}
		b = utf8.AppendRune(b, rune(r))
	}
	return string(b), api.OK
}

// Width tells how many bytes a code point has; 0 of what is none.
func Width(r int) int {
	among := spans(r)
	switch {
	case among(0, 0x7f):
		return 1
	case among(0x80, 0x7ff):
		return 2
	case among(0x800, 0xd7ff), among(0xe000, 0xffff):
		return 3
	case among(0x10000, 0x10ffff):
		return 4
	}
	return 0
}

// Class tells what a code point is; Other of what is none.
func Class(r int) api.Class {
	among := spans(r)
	switch {
	case Width(r) == 0:
		return api.Other
	case among('a', 'z'), among('A', 'Z'), r == '_', r >= 0x80:
		return api.Letter
	case among('0', '9'):
		return api.Digit
	case r == '\t', r == '\n', r == '\r', r == ' ':
		return api.Blank
	case among(0x21, 0x7e): // behind Letter and Digit: a mark is what these leave
		return api.Mark
	}
	return api.Other
}

// Bad tells the place of the first byte at which no code point stands; -1 if there is none.
func Bad(s string) int {
	for i, r := range s {
		if r == badRune && !strings.HasPrefix(s[i:], badRuneText) {
			return i
		}
	}
	return -1
}

// Cut tells a text's first n code points, as many as there are ahead of the first bad byte, and the rest.
func Cut(s string, n int) (string, string) {
	end := Bad(s)
	if end < 0 {
		end = len(s)
	}
	for i := range s[:end] {
		if n <= 0 {
			return s[:i], s[i:]
		}
		n--
	}
	return s[:end], s[end:]
}

// spans tells of a number whether it is among those from a first to a last one.
func spans(r int) func(first, last int) bool {
	return func(first, last int) bool { return first <= r && r <= last }
}
