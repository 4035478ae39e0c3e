package event

import (
	"bytes"
	"encoding/binary"
	"fmt"
	"math"
	"math/rand"
	"slices"
	"strings"
	"testing"

	"argosy/api"
)

const (
	top   = 1 << 40
	least = math.MinInt
	most  = math.MaxInt
)

// The second reckoning: by the library's numbers and texts, and of reading by what the bytes would be.

func expectRight(e api.Event) bool {
	if len(e.Stamp) == 0 || len(e.Stamp) > 64 || slices.Min(e.Stamp) < 0 || slices.Max(e.Stamp) > top {
		return false
	}
	tries := map[api.EventKind]int{1: 0, 2: 0, 3: 0, 4: 3, 5: 3, 6: 3}
	last, found := tries[e.Kind]
	return found && e.Try >= 0 && e.Try <= last && e.Item >= 1 && e.Item <= 63
}

func expectBytes(e api.Event) []byte {
	numbers := []int{int(e.Kind), e.Item}
	if e.Kind > 3 {
		numbers = append(numbers, e.Try)
	}
	numbers = append(numbers, len(e.Stamp))
	var b []byte
	for _, n := range append(numbers, e.Stamp...) {
		b = binary.AppendUvarint(b, uint64(n))
	}
	return b
}

// expectRead takes numbers in any form, with any ends; an event that these tell is the one only if it is right, and has just these bytes.
func expectRead(b []byte) (api.Event, api.Errno) {
	rest := b
	take := func() int {
		n, size := binary.Uvarint(rest)
		rest = rest[max(size, 0):]
		return int(n)
	}
	e := api.Event{Kind: api.EventKind(take()), Item: take()}
	if e.Kind > 3 {
		e.Try = take()
	}
	for range min(max(take(), 0), 99) {
		e.Stamp = append(e.Stamp, take())
	}
	if expectRight(e) && bytes.Equal(expectBytes(e), b) {
		return e, api.OK
	}
	return api.Event{}, api.ErrFormat
}

func expectText(e api.Event) string {
	if !expectRight(e) {
		return ""
	}
	text := fmt.Sprintf("%s %d", []string{"", "start", "ok", "fail", "undo", "undone", "slip"}[e.Kind], e.Item)
	if e.Kind > 3 {
		text += fmt.Sprintf(".%d", e.Try)
	}
	return text + " " + strings.Trim(fmt.Sprint(e.Stamp), "[]")
}

// same tells whether two events are; a stamp of nil is as an empty one.
func same(a, b api.Event) bool {
	return a.Kind == b.Kind && a.Item == b.Item && a.Try == b.Try && slices.Equal(a.Stamp, b.Stamp)
}

// checkEvent holds all that is asked of an event against the second reckoning.
func checkEvent(t *testing.T, e api.Event) {
	t.Helper()
	want, wantBytes := api.ErrArg, []byte(nil)
	if expectRight(e) {
		want, wantBytes = api.OK, expectBytes(e)
	}
	if got := Check(e); got != want {
		t.Fatalf("Check(%d): %d, want %d", e, got, want)
	}
	if b, got := Bytes(e); !bytes.Equal(b, wantBytes) || got != want {
		t.Fatalf("Bytes(%d): %x, %d; want %x, %d", e, b, got, wantBytes, want)
	}
	if got, want := Text(e), expectText(e); got != want {
		t.Fatalf("Text(%d): %q, want %q", e, got, want)
	}
	if got, want := Key(e), (api.Key{Item: e.Item, Undo: e.Kind > 3, Try: e.Try}); got != want {
		t.Fatalf("Key(%d): %v, want %v", e, got, want)
	}
	if got, want := Opens(e.Kind), e.Kind == 1 || e.Kind == 4; got != want {
		t.Fatalf("Opens(%d): %t", e.Kind, got)
	}
}

func checkRead(t *testing.T, b []byte) {
	t.Helper()
	e, got := Read(b)
	if wantEvent, want := expectRead(b); !same(e, wantEvent) || got != want {
		t.Fatalf("Read(%x): %d, %d; want %d, %d", b, e, got, wantEvent, want)
	}
}

// refusedRead looks that no event is told beside ErrFormat.
func refusedRead(t *testing.T, b []byte) {
	t.Helper()
	if e, fault := Read(b); !same(e, api.Event{}) || fault != api.ErrFormat {
		t.Errorf("Read(%x): %d, %d; want none, ErrFormat", b, e, fault)
	}
}

// lists are all lists of from none to so many bytes, each one of some.
func lists(count int, some ...byte) [][]byte {
	all, last := [][]byte{nil}, [][]byte{nil}
	for range count {
		var longer [][]byte
		for _, l := range last {
			for _, n := range some {
				longer = append(longer, slices.Concat(l, []byte{n}))
			}
		}
		all, last = append(all, longer...), longer
	}
	return all
}

// kinds, items, tries and stamps are those at which something changes; many of those that may not be would be right if bits of them were lost.

func kinds() []api.EventKind {
	return []api.EventKind{least, least + 1, -1 << 32, -1<<32 + 1, -256, -255, -6, -4, -1, 0, 1, 2, 3, 4, 5, 6, 7, 8, 9, 63, 127, 128, 129, 255, 256, 257, 258, 260, 512 + 1, 1<<16 + 1, 1<<32 + 1, 1<<32 + 4, most - 1, most}
}

func items() []int {
	return []int{least, least + 1, -1 << 32, -64, -63, -1, 0, 1, 2, 9, 10, 31, 32, 62, 63, 64, 65, 127, 128, 129, 255, 256, 257, 1<<32 + 1, top, top + 1, most}
}

func tries() []int {
	return []int{least, -1 << 32, -3, -1, 0, 1, 2, 3, 4, 5, 127, 128, 255, 256, 257, 1 << 32, 1<<32 + 1, top, top + 1, most}
}

func rightStamps() [][]int {
	last := make([]int, 64)
	last[63] = top
	return [][]int{{0}, {1}, {127}, {128}, {top - 1}, {top}, {0, 0}, {2, 0}, {0, 300}, {top, 0, top}, make([]int, 63), make([]int, 64), slices.Repeat([]int{top}, 64), last}
}

func wrongStamps() [][]int {
	stamps := [][]int{nil, {}, make([]int, 0, 70), make([]int, 65), make([]int, 66), make([]int, 128), make([]int, 255), make([]int, 256), make([]int, 257), make([]int, 1<<16+1)}
	for _, n := range []int{least, -1 << 32, -top, -1, top + 1, 1 << 41, 1 << 42, most} {
		stamps = append(stamps, []int{n}, []int{n, 0}, []int{0, n}, slices.Concat(make([]int, 63), []int{n}), slices.Concat(make([]int, 64), []int{n}))
	}
	return stamps
}

// rights are all right events with items and stamps at which something changes.
func rights() []api.Event {
	var events []api.Event
	for kind := api.EvStart; kind <= api.EvSlip; kind++ {
		last := 0
		if kind >= api.EvUndo {
			last = 3
		}
		for try := 0; try <= last; try++ {
			for _, item := range []int{1, 2, 10, 12, 62, 63} {
				for _, stamp := range rightStamps() {
					events = append(events, api.Event{Kind: kind, Item: item, Try: try, Stamp: stamp})
				}
			}
		}
	}
	return events
}

// wrongs are events of which just one thing is not right.
func wrongs() []api.Event {
	var events []api.Event
	for _, right := range []api.Event{{Kind: api.EvStart, Item: 1, Stamp: []int{1}}, {Kind: api.EvFail, Item: 63, Stamp: []int{0, top}}, {Kind: api.EvUndo, Item: 63, Try: 3, Stamp: []int{1}}, {Kind: api.EvSlip, Item: 1, Stamp: make([]int, 64)}} {
		add := func(turn func(e *api.Event)) {
			e := right
			turn(&e)
			if !expectRight(e) {
				events = append(events, e)
			}
		}
		for _, kind := range kinds() {
			add(func(e *api.Event) { e.Kind = kind })
		}
		for _, item := range items() {
			add(func(e *api.Event) { e.Item = item })
		}
		for _, try := range tries() {
			add(func(e *api.Event) { e.Try = try })
		}
		for _, stamp := range wrongStamps() {
			add(func(e *api.Event) { e.Stamp = stamp })
		}
	}
	return events
}

// anyEvent picks a right event; each count of bits of a count is as likely.
func anyEvent(r *rand.Rand) api.Event {
	e := api.Event{Kind: api.EventKind(1 + r.Intn(6)), Item: 1 + r.Intn(63), Stamp: make([]int, 1+r.Intn(64))}
	if e.Kind > api.EvFail {
		e.Try = r.Intn(4)
	}
	for i := range e.Stamp {
		e.Stamp[i] = r.Intn(1 << r.Intn(41))
	}
	return e
}

// anyLike picks bytes near others: one is another one, or goes, or comes.
func anyLike(r *rand.Rand, b []byte) []byte {
	at := r.Intn(len(b))
	switch r.Intn(4) {
	case 0:
		return slices.Concat(b[:at], b[at+1:])
	case 1:
		return slices.Concat(b[:at], []byte{byte(r.Intn(256))}, b[at:])
	case 2:
		return slices.Concat(b[:at], []byte{b[at] ^ 1<<r.Intn(8)}, b[at+1:])
	}
	return slices.Concat(b[:at], []byte{b[at] + byte(r.Intn(3)) - 1}, b[at+1:])
}
