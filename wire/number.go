package wire

import "argosy/api"

// A number's bytes.
const (
	bits = 7         // how many of its bits a byte has
	more = 1 << bits // what a byte has more, if it is not the last one
	most = 6         // how many bytes a number has at most
)

// right tells whether n is a number.
func right(n int) bool { return 0 <= n && n <= api.MaxCount }

// add puts a number's bytes behind others.
func add(all []byte, n int) []byte {
	for ; n >= more; n >>= bits {
		all = append(all, byte(n%more+more))
	}
	return append(all, byte(n))
}

// first tells the number that bytes begin with, and how many of them are its own.
func first(b []byte) (int, int, api.Errno) {
	n, ahead := 0, 0
number:
	for {
		switch {
		// This one is asked first: behind six bytes nothing that may follow makes them a number's.
		case ahead == most:
			return 0, 0, api.ErrFormat
		case ahead == len(b):
			return 0, 0, api.ErrShort
		case b[ahead] < more:
			break number
		}
		n += int(b[ahead]-more) << (ahead * bits)
		ahead++
	}
	last := int(b[ahead])
	n += last << (ahead * bits)
	if last == 0 && ahead > 0 || !right(n) {
		return 0, 0, api.ErrFormat
	}
	return n, ahead + 1, api.OK
}
