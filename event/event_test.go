package event

import (
	"bytes"
	"math/rand"
	"slices"
	"strings"
	"testing"

	"argosy/api"
)

// P10.1: kinds, items, tries and stamps, one by one.
func TestCheck(t *testing.T) {
	for _, c := range []struct {
		kind      api.EventKind
		item, try int
		stamp     []int
		want      api.Errno
	}{
		{-1, 1, 0, []int{1}, api.ErrArg},
		{0, 1, 0, []int{1}, api.ErrArg},
		{1, 1, 0, []int{1}, api.OK},
		{2, 1, 0, []int{1}, api.OK},
		{3, 1, 0, []int{1}, api.OK},
		{4, 1, 0, []int{1}, api.OK},
		{5, 1, 0, []int{1}, api.OK},
		{6, 1, 0, []int{1}, api.OK},
		{7, 1, 0, []int{1}, api.ErrArg},
		{257, 1, 0, []int{1}, api.ErrArg},
		{1, -1, 0, []int{1}, api.ErrArg},
		{1, 0, 0, []int{1}, api.ErrArg},
		{1, 63, 0, []int{1}, api.OK},
		{1, 64, 0, []int{1}, api.ErrArg},
		{4, -1, 0, []int{1}, api.ErrArg},
		{4, 0, 0, []int{1}, api.ErrArg},
		{4, 63, 0, []int{1}, api.OK},
		{4, 64, 0, []int{1}, api.ErrArg},
		{1, 1, -1, []int{1}, api.ErrArg},
		{1, 1, 1, []int{1}, api.ErrArg},
		{2, 1, 1, []int{1}, api.ErrArg},
		{3, 1, 1, []int{1}, api.ErrArg},
		{3, 1, 3, []int{1}, api.ErrArg},
		{4, 1, -1, []int{1}, api.ErrArg},
		{4, 1, 1, []int{1}, api.OK},
		{4, 1, 3, []int{1}, api.OK},
		{5, 1, 3, []int{1}, api.OK},
		{6, 1, 3, []int{1}, api.OK},
		{4, 1, 4, []int{1}, api.ErrArg},
		{5, 1, 4, []int{1}, api.ErrArg},
		{6, 1, 4, []int{1}, api.ErrArg},
		{1, 1, 0, nil, api.ErrArg},
		{1, 1, 0, []int{}, api.ErrArg},
		{1, 1, 0, make([]int, 64), api.OK},
		{1, 1, 0, make([]int, 65), api.ErrArg},
		{1, 1, 0, []int{-1}, api.ErrArg},
		{1, 1, 0, []int{0}, api.OK},
		{1, 1, 0, []int{0, top}, api.OK},
		{1, 1, 0, []int{0, top + 1}, api.ErrArg},
		{6, 1, 3, []int{0, -1}, api.ErrArg},
		{6, 1, 3, []int{top + 1}, api.ErrArg},
	} {
		e := api.Event{Kind: c.kind, Item: c.item, Try: c.try, Stamp: c.stamp}
		if got := Check(e); got != c.want {
			t.Errorf("Check(%d): %d, want %d", e, got, c.want)
		}
		checkEvent(t, e)
	}
}

// P10.1, P10.3, P10.4: all events of kinds, items and tries at which something changes, with stamps that are right and such that are not.
func TestAll(t *testing.T) {
	stamps := slices.Concat(rightStamps(), wrongStamps())
	for _, kind := range kinds() {
		for _, item := range items() {
			for i, try := range tries() {
				for _, stamp := range [][]int{{1}, {0, 300}, nil, stamps[(item&0xff+i)%len(stamps)]} {
					checkEvent(t, api.Event{Kind: kind, Item: item, Try: try, Stamp: stamp})
				}
			}
		}
	}
	for _, stamp := range stamps {
		for kind := api.EventKind(0); kind <= 7; kind++ {
			for try := range 5 {
				checkEvent(t, api.Event{Kind: kind, Item: 63, Try: try, Stamp: stamp})
			}
		}
	}
}

// P10.1: each kind's bytes, and those of the longest event.
func TestBytes(t *testing.T) {
	for _, c := range []struct {
		e    api.Event
		want string
	}{
		{api.Event{Kind: api.EvStart, Item: 1, Stamp: []int{1}}, "\x01\x01\x01\x01"},
		{api.Event{Kind: api.EvOk, Item: 63, Stamp: []int{0, 300}}, "\x02\x3f\x02\x00\xac\x02"},
		{api.Event{Kind: api.EvFail, Item: 10, Stamp: []int{top}}, "\x03\x0a\x01\x80\x80\x80\x80\x80\x20"},
		{api.Event{Kind: api.EvUndo, Item: 7, Stamp: []int{127}}, "\x04\x07\x00\x01\x7f"},
		{api.Event{Kind: api.EvUndone, Item: 7, Try: 3, Stamp: []int{128}}, "\x05\x07\x03\x01\x80\x01"},
		{api.Event{Kind: api.EvSlip, Item: 63, Try: 2, Stamp: make([]int, 64)}, "\x06\x3f\x02\x40" + strings.Repeat("\x00", 64)},
		{api.Event{Kind: api.EvSlip, Item: 63, Try: 3, Stamp: slices.Repeat([]int{top}, 64)}, "\x06\x3f\x03\x40" + strings.Repeat("\x80\x80\x80\x80\x80\x20", 64)},
	} {
		if b, fault := Bytes(c.e); string(b) != c.want || fault != api.OK {
			t.Errorf("Bytes(%d): %x, %d; want %x", c.e, b, fault, c.want)
		}
	}
}

// P10.1, P10.4: of what is not right neither bytes nor a text are told.
func TestWrong(t *testing.T) {
	for _, e := range append(wrongs(), api.Event{}) {
		if fault := Check(e); fault != api.ErrArg {
			t.Errorf("Check(%d): %d, want ErrArg", e, fault)
		}
		if b, fault := Bytes(e); len(b) != 0 || fault != api.ErrArg {
			t.Errorf("Bytes(%d): %x, %d; want none, ErrArg", e, b, fault)
		}
		if text := Text(e); text != "" {
			t.Errorf("Text(%d): %q, want none", e, text)
		}
	}
}

// P10.2: an event's bytes, all of them, and no more.
func TestRead(t *testing.T) {
	for _, want := range rights() {
		b := expectBytes(want)
		if e, fault := Read(b); !same(e, want) || fault != api.OK {
			t.Fatalf("Read(%x): %d, %d; want %d", b, e, fault, want)
		}
		for end := range b {
			refusedRead(t, b[:end])
		}
		for _, more := range []string{"\x00", "\x01", "\x80", "\xff", "\x00\x00", string(b)} {
			refusedRead(t, slices.Concat(b, []byte(more)))
			checkRead(t, slices.Concat([]byte(more), b))
		}
	}
}

// P10.2
func TestReadErrors(t *testing.T) {
	zeros := func(count int) string { return strings.Repeat("\x00", count) }
	for name, s := range map[string]string{
		"no bytes":                             "",
		"a kind alone":                         "\x01",
		"a kind and an item":                   "\x01\x01",
		"a kind, an item and a try":            "\x04\x01\x00",
		"a kind 0":                             "\x00\x01\x01\x01",
		"a kind 7":                             "\x07\x01\x01\x01",
		"a kind 7 with a try":                  "\x07\x01\x00\x01\x01",
		"a kind 255":                           "\xff\x01\x01\x01",
		"a kind 129":                           "\x81\x01\x01\x01",
		"a kind 1 in a longer form":            "\x81\x00\x01\x01\x01",
		"an item 0":                            "\x01\x00\x01\x01",
		"an item 0 of a try":                   "\x04\x00\x00\x01\x01",
		"an item 64":                           "\x01\x40\x01\x01",
		"an item 64 of a try":                  "\x04\x40\x00\x01\x01",
		"an item 127":                          "\x01\x7f\x01\x01",
		"an item 2^32 + 1":                     "\x01\x81\x80\x80\x80\x10\x01\x01",
		"an item in a longer form":             "\x01\x81\x00\x01\x01",
		"an item that ends too early":          "\x01\x80",
		"an item above 2^40":                   "\x01\x81\x80\x80\x80\x80\x20\x01\x01",
		"a try 4":                              "\x04\x01\x04\x01\x01",
		"a try 2^32":                           "\x04\x01\x80\x80\x80\x80\x10\x01\x01",
		"a try in a longer form":               "\x05\x01\x83\x00\x01\x01",
		"a try that ends too early":            "\x06\x01\x80",
		"a try of a kind that has none":        "\x01\x01\x00\x01\x01",
		"a step's event in the place of a try": "\x04\x01\x01\x01",
		"a stamp of no counts":                 "\x01\x01\x00",
		"a stamp of no counts, of a try":       "\x04\x01\x00\x00",
		"a stamp of no counts, and one more":   "\x01\x01\x00\x01",
		"a stamp of 65 counts":                 "\x01\x01\x41" + zeros(65),
		"a stamp of 65 counts, but one":        "\x01\x01\x41" + zeros(64),
		"a stamp of 64 counts, but one":        "\x01\x01\x40" + zeros(63),
		"a stamp of 64 counts, and one":        "\x01\x01\x40" + zeros(65),
		"a stamp of 255 counts":                "\x01\x01\xff\x01" + zeros(255),
		"a stamp of 256 counts":                "\x01\x01\x80\x02" + zeros(256),
		"a stamp's length in a longer form":    "\x01\x01\x81\x00\x01",
		"a stamp's count in a longer form":     "\x01\x01\x01\x81\x00",
		"a stamp's count that ends too early":  "\x01\x01\x01\x80",
		"a stamp's count above 2^40":           "\x01\x01\x01\x81\x80\x80\x80\x80\x20",
		"one count of two":                     "\x01\x01\x02\x01",
		"a byte more":                          "\x01\x01\x01\x01\x00",
		"two events":                           "\x01\x01\x01\x01\x01\x01\x01\x01",
	} {
		t.Run(name, func(t *testing.T) { refusedRead(t, []byte(s)) })
	}
}

// P10.2: all bytes of up to five at which something changes; and each byte at each place of events.
func TestReadAll(t *testing.T) {
	for _, b := range lists(5, 0, 1, 2, 3, 4, 5, 6, 7, 0x3f, 0x40, 0x41, 0x80, 0x81) {
		checkRead(t, b)
	}
	for _, s := range []string{"\x01\x01\x01\x01", "\x03\x3f\x02\x00\xac\x02", "\x04\x05\x01\x02\x02\x00", "\x06\x3f\x03\x01\x80\x80\x80\x80\x80\x20"} {
		for at := range len(s) {
			for n := range 256 {
				b := []byte(s)
				b[at] = byte(n)
				checkRead(t, b)
			}
		}
	}
}

// P10.2: what stands behind a list's end is not among its bytes.
func TestReadEnds(t *testing.T) {
	long := []byte("\x04\x05\x01\x02\x02\x00\x01\x01\x01\x01")
	for at := range long {
		for end := at; end <= len(long); end++ {
			checkRead(t, long[at:end])
		}
	}
}

// P10.3
func TestKey(t *testing.T) {
	for _, c := range []struct {
		e    api.Event
		want api.Key
	}{
		{api.Event{Kind: api.EvStart, Item: 5, Stamp: []int{1}}, api.Key{Item: 5}},
		{api.Event{Kind: api.EvOk, Item: 5, Stamp: []int{1}}, api.Key{Item: 5}},
		{api.Event{Kind: api.EvFail, Item: 5, Stamp: []int{1}}, api.Key{Item: 5}},
		{api.Event{Kind: api.EvUndo, Item: 5, Try: 1, Stamp: []int{1}}, api.Key{Item: 5, Undo: true, Try: 1}},
		{api.Event{Kind: api.EvUndone, Item: 5, Try: 0, Stamp: []int{1}}, api.Key{Item: 5, Undo: true}},
		{api.Event{Kind: api.EvSlip, Item: 63, Try: 3, Stamp: []int{1}}, api.Key{Item: 63, Undo: true, Try: 3}},
		{api.Event{}, api.Key{}},
		{api.Event{Kind: -1, Item: -2, Try: -3}, api.Key{Item: -2, Try: -3}},
		{api.Event{Kind: 0, Item: 64, Try: 4}, api.Key{Item: 64, Try: 4}},
		{api.Event{Kind: 3, Item: 1, Try: 2}, api.Key{Item: 1, Try: 2}},
		{api.Event{Kind: 7, Item: 0, Try: 9}, api.Key{Item: 0, Undo: true, Try: 9}},
		{api.Event{Kind: 256, Item: 1}, api.Key{Item: 1, Undo: true}},
		{api.Event{Kind: most, Item: most, Try: most}, api.Key{Item: most, Undo: true, Try: most}},
		{api.Event{Kind: least, Item: least, Try: least}, api.Key{Item: least, Try: least}},
		{api.Event{Kind: -1<<32 + 4, Item: 1 << 32, Try: 1 << 32}, api.Key{Item: 1 << 32, Try: 1 << 32}},
	} {
		if got := Key(c.e); got != c.want {
			t.Errorf("Key(%d): %v, want %v", c.e, got, c.want)
		}
	}
}

// P10.3
func TestOpens(t *testing.T) {
	for _, k := range kinds() {
		if got, want := Opens(k), k == api.EvStart || k == api.EvUndo; got != want {
			t.Errorf("Opens(%d): %t", k, got)
		}
	}
	for k := api.EventKind(-1000); k <= 1000; k++ {
		if Opens(k) != (k == 1 || k == 4) {
			t.Errorf("Opens(%d): %t", k, Opens(k))
		}
	}
}

// P10.4
func TestText(t *testing.T) {
	for _, c := range []struct {
		e    api.Event
		want string
	}{
		{api.Event{Kind: api.EvStart, Item: 1, Stamp: []int{1}}, "start 1 1"},
		{api.Event{Kind: api.EvOk, Item: 63, Stamp: []int{0, 300}}, "ok 63 0 300"},
		{api.Event{Kind: api.EvFail, Item: 10, Stamp: []int{top}}, "fail 10 1099511627776"},
		{api.Event{Kind: api.EvUndo, Item: 7, Stamp: []int{9}}, "undo 7.0 9"},
		{api.Event{Kind: api.EvUndone, Item: 7, Try: 3, Stamp: []int{12, 0, 1}}, "undone 7.3 12 0 1"},
		{api.Event{Kind: api.EvSlip, Item: 20, Try: 2, Stamp: []int{top - 1, 10}}, "slip 20.2 1099511627775 10"},
		{api.Event{Kind: api.EvStart, Item: 2, Stamp: make([]int, 64)}, "start 2" + strings.Repeat(" 0", 64)},
		{api.Event{Kind: api.EvSlip, Item: 2, Stamp: slices.Repeat([]int{top}, 64)}, "slip 2.0" + strings.Repeat(" 1099511627776", 64)},
		{api.Event{Kind: 7, Item: 1, Stamp: []int{1}}, ""},
		{api.Event{Kind: 1, Item: 1, Try: 1, Stamp: []int{1}}, ""},
		{api.Event{Kind: 4, Item: 1, Try: 4, Stamp: []int{1}}, ""},
		{api.Event{Kind: 1, Item: 1}, ""},
		{api.Event{}, ""},
	} {
		if got := Text(c.e); got != c.want {
			t.Errorf("Text(%d): %q, want %q", c.e, got, c.want)
		}
	}
}

// P10.5: an event's bytes are read as it, and what is read has just the bytes that it was read of.
func TestBack(t *testing.T) {
	r := rand.New(rand.NewSource(105))
	events := rights()
	for range 3000 {
		events = append(events, anyEvent(r))
	}
	for _, e := range events {
		checkEvent(t, e)
		b, fault := Bytes(e)
		if back, readFault := Read(b); fault != api.OK || readFault != api.OK || !same(back, e) {
			t.Fatalf("%d is read as %d from %x: %d, %d", e, back, b, fault, readFault)
		}
	}
	read := 0
	for range 100000 {
		b := anyLike(r, expectBytes(events[r.Intn(len(events))]))
		checkRead(t, b)
		e, fault := Read(b)
		if fault != api.OK {
			continue
		}
		read++
		if back, fault := Bytes(e); !bytes.Equal(back, b) || fault != api.OK {
			t.Fatalf("%x is read as %d, whose bytes are %x: %d", b, e, back, fault)
		}
	}
	if read < 1000 {
		t.Errorf("only %d were read", read)
	}
}

// P10.6
func TestUnlike(t *testing.T) {
	var events []api.Event
	stamps := [][]int{{0}, {1}, {10}, {11}, {1, 0}, {0, 1}, {0, 0}, {1, 1}, {1, 10}, {11, 0}, {1, 1, 0}, {0, 1, 1}, {128}, {129}, {1 << 32}, {top}, make([]int, 63), make([]int, 64)}
	for kind := api.EventKind(-1); kind <= 8; kind++ {
		for item := -1; item <= 65; item++ {
			for try := -1; try <= 4; try++ {
				for _, stamp := range stamps {
					if e := (api.Event{Kind: kind, Item: item, Try: try, Stamp: stamp}); Check(e) == api.OK {
						events = append(events, e)
					}
				}
			}
		}
	}
	if want := 63 * len(stamps) * (3 + 3*4); len(events) != want {
		t.Fatalf("%d events, want %d", len(events), want)
	}
	byBytes, byText := map[string]api.Event{}, map[string]api.Event{}
	for _, e := range events {
		b, _ := Bytes(e)
		if other, met := byBytes[string(b)]; met {
			t.Fatalf("%d and %d have the bytes %x", e, other, b)
		}
		if other, met := byText[Text(e)]; met {
			t.Fatalf("%d and %d have the text %q", e, other, Text(e))
		}
		byBytes[string(b)], byText[Text(e)] = e, e
	}
}

// What is handed in stays, and what stands behind a list's end, too.
func TestArgumentsStay(t *testing.T) {
	for _, e := range slices.Concat(rights(), wrongs()) {
		room := append(slices.Clone(e.Stamp), 7, 8, 9)
		given := e
		given.Stamp = room[:len(e.Stamp)]
		Check(given)
		Bytes(given)
		Key(given)
		Text(given)
		if !slices.Equal(room, slices.Concat(e.Stamp, []int{7, 8, 9})) {
			t.Fatalf("%d is now %d", e.Stamp, room)
		}
	}
	for _, s := range []string{"", "\x01\x01\x01\x01", "\x04\x05\x01\x02\x02\x00", "\x04\x05\x01\x02\x02\x00\x00", "\x07\x01\x01\x01", "\x01\x01\x01\x80"} {
		room := []byte(s + "behind")
		Read(room[:len(s)])
		if string(room) != s+"behind" {
			t.Errorf("%x is now %x", s, room)
		}
	}
}

// An answer shares no memory with what was handed in, nor with another answer.
func TestNewMemory(t *testing.T) {
	given := api.Event{Kind: api.EvUndo, Item: 5, Try: 1, Stamp: []int{2, 0}}
	one, _ := Bytes(given)
	two, _ := Bytes(given)
	want := string(one)
	clear(one[:cap(one)])
	given.Stamp[0] = 9
	if string(two) != want {
		t.Errorf("bytes were %x, and are %x", want, two)
	}
	first, _ := Read(two)
	second, _ := Read(two)
	clear(first.Stamp[:cap(first.Stamp)])
	clear(two[:cap(two)])
	if !slices.Equal(second.Stamp, []int{2, 0}) {
		t.Errorf("the stamp is now %d", second.Stamp)
	}
}

// The chapter's example.
func TestExamples(t *testing.T) {
	e := api.Event{Kind: api.EvUndo, Item: 5, Try: 1, Stamp: []int{2, 0}}
	if b, fault := Bytes(e); string(b) != "\x04\x05\x01\x02\x02\x00" || fault != api.OK {
		t.Errorf("%x, %d", b, fault)
	}
	if text := Text(e); text != "undo 5.1 2 0" {
		t.Errorf("%q", text)
	}
	if back, fault := Read([]byte("\x04\x05\x01\x02\x02\x00")); !same(back, e) || fault != api.OK {
		t.Errorf("%d, %d", back, fault)
	}
}
