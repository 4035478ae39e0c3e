package branch

import (
	"math"
	"math/rand"
	"slices"
	"strings"
	"testing"

	"argosy/api"
	"argosy/disk"
)

func ev(k api.EventKind, item int, stamp ...int) api.Event {
	return api.Event{Kind: k, Item: item, Stamp: stamp}
}

// stampOf is n counts, of which that of branch i is k, and all others the same.
func stampOf(n, i, k, others int) []int {
	l := slices.Repeat([]int{others}, n)
	l[i] = k
	return l
}

// eventsOf is count events of branch i of n, of all kinds.
func eventsOf(n, i, count int) []api.Event {
	var l []api.Event
	for k := 1; k <= count; k++ {
		e := ev(api.EventKind(1+k%6), 1+k%63, stampOf(n, i, k, k*k)...)
		if e.Kind > api.EvFail {
			e.Try = k % 4
		}
		l = append(l, e)
	}
	return l
}

// far are numbers that no branch and no event has.
func far() []int {
	return []int{math.MinInt, -1 << 32, -2, -1, 65, 66, 1 << 32, math.MaxInt}
}

// tails are bytes behind what is whole of branch 0 of 2, which has two events.
func tails() map[string]string {
	next := logOf(ev(api.EvFail, 9, 3, 0))
	turned := []byte(next)
	turned[3] ^= 4
	return map[string]string{
		"a byte":                                 "\x00",
		"a torn head":                            next[:1],
		"a torn body":                            next[:4],
		"a torn sum":                             next[:len(next)-1],
		"a turned body":                          string(turned),
		"a turned body, and one more event":      string(turned) + logOf(ev(api.EvOk, 9, 4, 0)),
		"a turned body, and the next event":      string(turned) + next,
		"a frame that says too much":             "\x04\x01" + strings.Repeat("\x00", 1100),
		"an empty frame":                         frameOf(""),
		"an empty frame, and the next event":     frameOf("") + next,
		"a frame of 1024 bytes":                  frameOf(textOf(1024)),
		"a frame of no event":                    frameOf("hello"),
		"a frame of no event, and the next one":  frameOf("hello") + next,
		"an event of kind 0":                     frameOf("\x00\x01\x02\x03\x00"),
		"an event of kind 7":                     frameOf("\x07\x01\x02\x03\x00"),
		"an event of item 0":                     frameOf("\x01\x00\x02\x03\x00"),
		"an event of item 64":                    frameOf("\x01\x40\x02\x03\x00"),
		"an event of try 4":                      frameOf("\x04\x01\x04\x02\x03\x00"),
		"an event, and a byte in its frame":      frameOf("\x01\x01\x02\x03\x00\x00"),
		"an event but a byte in its frame":       frameOf("\x01\x01\x02\x03"),
		"an event in a longer form":              frameOf("\x01\x81\x00\x02\x03\x00"),
		"an event with one count":                logOf(ev(api.EvOk, 1, 3)),
		"an event with three counts":             logOf(ev(api.EvOk, 1, 3, 0, 0)),
		"an event with three counts, and 64":     logOf(ev(api.EvOk, 1, stampOf(64, 0, 3, 0)...)),
		"one count, and the next event":          logOf(ev(api.EvOk, 1, 3)) + next,
		"the count 0":                            logOf(ev(api.EvOk, 1, 0, 3)),
		"the count 1":                            logOf(ev(api.EvOk, 1, 1, 0)),
		"the count that it has":                  logOf(ev(api.EvOk, 1, 2, 3)),
		"the count 4":                            logOf(ev(api.EvOk, 1, 4, 0)),
		"the count 4, and then 3":                logOf(ev(api.EvOk, 1, 4, 0), ev(api.EvOk, 1, 3, 0)),
		"the count 2, and then 3":                logOf(ev(api.EvOk, 1, 2, 0), ev(api.EvOk, 1, 3, 0)),
		"the count 9, and then 4":                logOf(ev(api.EvOk, 1, 9, 0), ev(api.EvOk, 1, 4, 0)),
		"the greatest count":                     logOf(ev(api.EvOk, 1, top, 0)),
		"a count of 2^32 and 3":                  logOf(ev(api.EvOk, 1, 1<<32+3, 0)),
		"a text's frames":                        fileOf("ab"),
		"the other branch's next event":          logOf(ev(api.EvOk, 1, 0, 3)),
		"the next event's bytes without a frame": bodyOf(ev(api.EvOk, 1, 3, 0)),
	}
}

// loaded is a disk of two branches of two events each, of which the first are synced, and something behind those of branch 0.
func loaded(t *testing.T, tail string) *disk.Disk {
	t.Helper()
	d := newDisk(t, 3, 5000)
	log := logOf(ev(api.EvStart, 1, 1, 0), ev(api.EvOk, 1, 2, 5))
	put(t, d, 0, log+tail, 11)
	put(t, d, 1, logOf(ev(api.EvStart, 2, 0, 1), ev(api.EvUndo, 2, 9, 2)), 11)
	put(t, d, 2, fileOf("ab"), 3)
	return d
}

// P11.2: events of all kinds, in all branches, with stamps of any counts, are appended, and not synced.
func TestAppend(t *testing.T) {
	for _, n := range []int{1, 2, 3, 63, 64} {
		d := newDisk(t, n+1, 1<<20)
		for i := range n {
			want := ""
			for _, e := range eventsOf(n, i, 13) {
				expect(t, "Append", checkAppend(t, d, i, e), api.OK)
				want += logOf(e)
				if string(d.Read(i)) != want || d.Synced(i) != 0 {
					t.Fatalf("branch %d of %d: %x, %d synced", i, n, d.Read(i), d.Synced(i))
				}
			}
			if log, size := checkLoad(t, d, i); !sameLog(log, eventsOf(n, i, 13)) || size != len(want) {
				t.Fatalf("branch %d of %d: %d, %d", i, n, log, size)
			}
		}
		if len(d.Read(n)) != 0 {
			t.Fatalf("the last file of %d: %x", n, d.Read(n))
		}
	}
}

// P11.2: the very bytes.
func TestAppendBytes(t *testing.T) {
	d := newDisk(t, 3, 100)
	expect(t, "Append", Append(d, 1, ev(api.EvStart, 1, 1, 0)), api.OK)
	if want := "\x00\x05\x01\x01\x02\x01\x00\x6d\x39\x62\x5f"; string(d.Read(1)) != want {
		t.Errorf("%x, want %x", d.Read(1), want)
	}
}

// P11.2: there is no such branch, the event is not right, or its stamp has too few or too many counts.
func TestAppendErrors(t *testing.T) {
	for _, n := range []int{0, 1, 2, 3, 64} {
		d := newDisk(t, n+1, 2000)
		right := ev(api.EvStart, 1, slices.Repeat([]int{1}, max(n, 1))...)
		for _, i := range append(far(), n, n+1, n+2) {
			for _, d := range []*disk.Disk{d, dead(d)} {
				expect(t, "Append to no branch", checkAppend(t, d, i, right), api.ErrArg)
			}
		}
		for i := range n {
			for _, counts := range []int{0, 1, 2, 3, 4, 63, 64, 65} {
				want := api.ErrArg
				if counts == n {
					want = api.OK
				}
				e := ev(api.EvStart, 1, slices.Repeat([]int{1}, counts)...)
				expect(t, "Append of counts", checkAppend(t, d.Copy(), i, e), want)
			}
			for _, e := range wrongs(n) {
				for _, d := range []*disk.Disk{d, dead(d)} {
					expect(t, "Append of what is not right", checkAppend(t, d, i, e), api.ErrArg)
				}
			}
		}
	}
}

// wrongs are events with stamps of n counts that are not right.
func wrongs(n int) []api.Event {
	s := slices.Repeat([]int{1}, n)
	l := []api.Event{
		{},
		ev(0, 1, s...), ev(-1, 1, s...), ev(7, 1, s...), ev(257, 1, s...),
		ev(api.EvStart, 0, s...), ev(api.EvStart, -1, s...), ev(api.EvStart, 64, s...), ev(api.EvStart, 1<<32+1, s...),
		{Kind: api.EvOk, Item: 1, Try: 1, Stamp: s},
		{Kind: api.EvOk, Item: 1, Try: -1, Stamp: s},
		{Kind: api.EvUndo, Item: 1, Try: 4, Stamp: s},
		{Kind: api.EvUndo, Item: 1, Try: -1, Stamp: s},
	}
	for _, count := range []int{-1, math.MinInt, top + 1, math.MaxInt} {
		l = append(l, ev(api.EvOk, 1, append(s[1:n:n], count)...))
	}
	return l
}

// P11.2, P11.3: an event whose own count is not the next one is appended, and not told, nor is what follows it.
func TestAppendAnyCount(t *testing.T) {
	for _, count := range []int{0, 1, 2, 4, 9, 1<<32 + 3, top} {
		for _, other := range []int{0, 1, 3, top} {
			d := loaded(t, "")
			was := string(d.Read(0))
			expect(t, "Append", checkAppend(t, d, 0, ev(api.EvFail, 1, count, other)), api.OK)
			expect(t, "Append", checkAppend(t, d, 0, ev(api.EvFail, 1, 3, 0)), api.OK)
			if log, size := checkLoad(t, d, 0); len(log) != 2 || size != len(was) || len(d.Read(0)) <= len(was)+11 {
				t.Errorf("count %d: %d, %d", count, log, size)
			}
		}
	}
	for _, other := range []int{0, 1, 3, top} { // the other branches' counts may be any
		d := loaded(t, "")
		expect(t, "Append", checkAppend(t, d, 0, ev(api.EvFail, 1, 3, other)), api.OK)
		if log, size := checkLoad(t, d, 0); len(log) != 3 || size != len(d.Read(0)) {
			t.Errorf("other count %d: %d, %d", other, log, size)
		}
	}
}

// P11.2: what the disk answers.
func TestAppendDisk(t *testing.T) {
	e := ev(api.EvStart, 1, 1, 0)
	need := len(logOf(e))
	for _, c := range []struct {
		room, fuse int
		down       bool
		want       api.Errno
	}{
		{need, -1, false, api.OK},
		{need - 1, -1, false, api.ErrFull},
		{0, -1, false, api.ErrFull},
		{need, 0, false, api.ErrDown},
		{need, 1, false, api.OK},
		{need - 1, 0, false, api.ErrFull},
		{need, -1, true, api.ErrDown},
		{need - 1, -1, true, api.ErrDown},
	} {
		d := newDisk(t, 3, c.room)
		d.Arm(c.fuse)
		if c.down {
			d = dead(d)
		}
		expect(t, "Append", checkAppend(t, d, 0, e), c.want)
		if (len(d.Read(0)) == need) != (c.want == api.OK) || d.Synced(0) != 0 {
			t.Errorf("%v: %x", c, d.Read(0))
		}
		if fuseOf(d) > 0 && c.fuse == 1 {
			t.Errorf("%v: the fuse is %d", c, fuseOf(d))
		}
	}
}

// P11.3: nothing of what stands behind what is whole is told.
func TestLoad(t *testing.T) {
	want := []api.Event{ev(api.EvStart, 1, 1, 0), ev(api.EvOk, 1, 2, 5)}
	for name, tail := range tails() {
		d := loaded(t, tail)
		for _, d := range []*disk.Disk{d, dead(d)} {
			if log, size := checkLoad(t, d, 0); !sameLog(log, want) || size != 22 {
				t.Errorf("%s: %d, %d", name, log, size)
			}
		}
	}
}

// P11.3: where the first frame is none of this branch's, nothing is told, whatever follows.
func TestLoadFirst(t *testing.T) {
	good := logOf(ev(api.EvStart, 1, 1, 0), ev(api.EvOk, 1, 2, 5))
	first := map[string]string{"no bytes": "", "the count 2": logOf(ev(api.EvOk, 1, 2, 0)), "the other branch's": logOf(ev(api.EvOk, 1, 0, 1))}
	for name, tail := range tails() {
		if tail != logOf(ev(api.EvOk, 1, 1, 0)) {
			first[name] = tail
		}
	}
	for name, file := range first {
		for _, behind := range []string{"", good} {
			if file+behind == good {
				continue
			}
			d := newDisk(t, 3, 5000)
			put(t, d, 0, file+behind, len(file))
			if log, size := checkLoad(t, d, 0); len(log) != 0 || size != 0 {
				t.Errorf("%s: %d, %d", name, log, size)
			}
		}
	}
}

// P11.3: no branch: below 0, the last file, and behind it; a disk of one file has none.
func TestLoadNone(t *testing.T) {
	for _, n := range []int{0, 1, 2, 64} {
		d := newDisk(t, n+1, 1<<20)
		for i := range n + 1 {
			put(t, d, i, logOf(eventsOf(max(n, 1), min(i, max(n-1, 0)), 3)...), 0)
		}
		for _, i := range append(far(), n, n+1) {
			if log, size := checkLoad(t, d, i); len(log) != 0 || size != 0 {
				t.Errorf("branch %d of %d: %d, %d", i, n, log, size)
			}
		}
		for i := range n {
			if log, size := checkLoad(t, d, i); len(log) != 3 || size != len(d.Read(i)) {
				t.Errorf("branch %d of %d: %d, %d", i, n, log, size)
			}
		}
	}
}

// P11.3: a log cut off anywhere, or with any bit turned.
func TestLoadTorn(t *testing.T) {
	for _, n := range []int{1, 2, 5} {
		for i := range n {
			events := eventsOf(n, i, 7)
			log := logOf(events...)
			_, ends := expectWhole(log, i, n)
			if len(ends) != 8 {
				t.Fatalf("%d events are whole", len(ends)-1)
			}
			d := newDisk(t, n+1, 1000)
			for end := range len(log) + 1 {
				put(t, d, i, log[:end], end/2)
				got, size := checkLoad(t, d, i)
				if size > end || len(got) < 7 && ends[len(got)+1] <= end || !sameLog(got, events[:len(got)]) {
					t.Fatalf("%d of %d bytes: %d, %d", end, len(log), got, size)
				}
			}
			for bit := range len(log) * 8 {
				turned := []byte(log)
				turned[bit/8] ^= 1 << (bit % 8)
				put(t, d, i, string(turned), 0)
				got, size := checkLoad(t, d, i)
				if size > bit/8 || !sameLog(got, events[:len(got)]) {
					t.Fatalf("bit %d of %d bytes: %d, %d", bit, len(log), got, size)
				}
			}
		}
	}
}

// P11.4: what stands behind what is whole is cut off, and nothing else.
func TestOpen(t *testing.T) {
	want := [][]api.Event{{ev(api.EvStart, 1, 1, 0), ev(api.EvOk, 1, 2, 5)}, {ev(api.EvStart, 2, 0, 1), ev(api.EvUndo, 2, 9, 2)}}
	for name, tail := range tails() {
		for _, synced := range []int{0, 11, 22, 22 + len(tail)} {
			d := loaded(t, "")
			put(t, d, 0, logOf(want[0]...)+tail, synced)
			room := d.Room()
			if logs, e := checkOpen(t, d); !sameLogs(logs, want) || e != api.OK {
				t.Fatalf("%s: %d, %d", name, logs, e)
			}
			if len(d.Read(0)) != 22 || d.Synced(0) != 22 || d.Room() != room+len(tail) {
				t.Fatalf("%s: %d bytes, %d synced, room %d", name, len(d.Read(0)), d.Synced(0), d.Room())
			}
			if len(d.Read(1)) != 23 || d.Synced(1) != 11 || string(d.Read(2)) != fileOf("ab") || d.Synced(2) != 3 {
				t.Fatalf("%s: %d bytes, %d synced; %x", name, len(d.Read(1)), d.Synced(1), d.Read(2))
			}
		}
	}
}

// P11.4: where nothing is to be cut off, no write is done: what is loose stays loose, and no power is asked for.
func TestOpenWhole(t *testing.T) {
	for _, n := range []int{0, 1, 2, 64} {
		d := newDisk(t, n+1, 1<<20)
		for i := range n {
			log := logOf(eventsOf(n, i, i%4)...)
			put(t, d, i, log, len(log)/3)
		}
		put(t, d, n, "torn", 1)
		d.Arm(0)
		for _, d := range []*disk.Disk{d, dead(d)} {
			logs, e := checkOpen(t, d)
			if len(logs) != n || e != api.OK {
				t.Fatalf("%d branches: %d, %d", n, logs, e)
			}
			for i, log := range logs {
				if !sameLog(log, eventsOf(n, i, i%4)) || d.Synced(i) != len(d.Read(i))/3 {
					t.Fatalf("branch %d of %d: %d", i, n, log)
				}
			}
			if string(d.Read(n)) != "torn" || d.Synced(n) != 1 {
				t.Fatalf("the last file: %q, %d", d.Read(n), d.Synced(n))
			}
		}
	}
}

// P11.4: branches are cut by numbers rising; where the power goes, the first ones are cut, and nothing is told.
func TestOpenFuse(t *testing.T) {
	torn := []int{0, 2, 3, 5}
	for fuse := range 6 {
		d := newDisk(t, 7, 5000)
		for i := range 6 {
			tail := ""
			if slices.Contains(torn, i) {
				tail = "torn"
			}
			put(t, d, i, logOf(eventsOf(6, i, i)...)+tail, 0)
		}
		d.Arm(fuse)
		logs, e := checkOpen(t, d)
		if fuse >= len(torn) && (len(logs) != 6 || e != api.OK || d.Down()) {
			t.Fatalf("fuse %d: %d, %d", fuse, logs, e)
		}
		if fuse < len(torn) && (len(logs) != 0 || e != api.ErrDown || !d.Down()) {
			t.Fatalf("fuse %d: %d, %d", fuse, logs, e)
		}
		for k, i := range torn {
			if left := strings.HasSuffix(string(d.Read(i)), "torn"); left != (k >= fuse) {
				t.Fatalf("fuse %d, branch %d: %q", fuse, i, d.Read(i))
			}
		}
	}
	if logs, e := checkOpen(t, dead(loaded(t, "torn"))); len(logs) != 0 || e != api.ErrDown {
		t.Errorf("down: %d, %d", logs, e)
	}
}

// P11.7
func TestKeep(t *testing.T) {
	ends := []int{0, 11, 22}
	for name, tail := range tails() {
		for _, tail := range []string{"", tail} {
			for n := -2; n <= 5; n++ {
				d := loaded(t, tail)
				was := string(d.Read(0))
				if n < 0 || n > 2 {
					d.Arm(0)
					expect(t, name, checkKeep(t, d, 0, n), api.ErrArg)
					expect(t, name, checkKeep(t, dead(d), 0, n), api.ErrArg)
					continue
				}
				expect(t, name, checkKeep(t, d, 0, n), api.OK)
				if string(d.Read(0)) != was[:ends[n]] {
					t.Fatalf("%s: Keep of %d: %x of %x", name, n, d.Read(0), was)
				}
				synced := 11
				if was != string(d.Read(0)) {
					synced = ends[n]
				}
				if d.Synced(0) != synced {
					t.Fatalf("%s: Keep of %d: %d synced, want %d", name, n, d.Synced(0), synced)
				}
				if log, size := checkLoad(t, d, 0); len(log) != n || size != ends[n] {
					t.Fatalf("%s: Keep of %d: %d, %d", name, n, log, size)
				}
				if len(d.Read(1)) != 23 || d.Synced(1) != 11 || string(d.Read(2)) != fileOf("ab") {
					t.Fatalf("%s: Keep of %d turned another file", name, n)
				}
			}
		}
	}
}

// P11.7: no such branch, and numbers of events that can't be.
func TestKeepErrors(t *testing.T) {
	for _, n := range []int{0, 1, 2, 64} {
		d := newDisk(t, n+1, 1<<20)
		for i := range n {
			put(t, d, i, logOf(eventsOf(n, i, 3)...)+"torn", 5)
		}
		put(t, d, n, fileOf("ab"), 5)
		for _, i := range append(far(), n, n+1) {
			for _, count := range []int{-1, 0, 1, 3} {
				expect(t, "Keep of no branch", checkKeep(t, d, i, count), api.ErrArg)
				expect(t, "Keep of no branch, down", checkKeep(t, dead(d), i, count), api.ErrArg)
			}
		}
		for i := range n {
			for _, count := range append(far(), 4, 5) {
				expect(t, "Keep of too many", checkKeep(t, d, i, count), api.ErrArg)
			}
		}
	}
	d := newDisk(t, 2, 100)
	expect(t, "Keep of none of none", checkKeep(t, d, 0, 0), api.OK)
	expect(t, "Keep of one of none", checkKeep(t, d, 0, 1), api.ErrArg)
	put(t, d, 0, "torn", 0)
	expect(t, "Keep of one of none, torn", checkKeep(t, d, 0, 1), api.ErrArg)
	expect(t, "Keep of none of none, torn", checkKeep(t, d, 0, 0), api.OK)
	if len(d.Read(0)) != 0 {
		t.Errorf("%q", d.Read(0))
	}
}

// P11.7: what the disk answers; where there is nothing to be cut off it is not asked.
func TestKeepDisk(t *testing.T) {
	for _, c := range []struct {
		tail       string
		keep, fuse int
		down       bool
		want       api.Errno
		size       int
	}{
		{"", 2, 0, false, api.OK, 22},
		{"", 2, -1, true, api.OK, 22},
		{"", 1, 0, false, api.ErrDown, 22},
		{"", 1, 1, false, api.OK, 11},
		{"", 0, -1, true, api.ErrDown, 22},
		{"torn", 2, 0, false, api.ErrDown, 26},
		{"torn", 2, 1, false, api.OK, 22},
		{"torn", 2, -1, true, api.ErrDown, 26},
		{"torn", 3, -1, true, api.ErrArg, 26},
	} {
		d := loaded(t, c.tail)
		d.Arm(c.fuse)
		if c.down {
			d = dead(d)
		}
		expect(t, "Keep", checkKeep(t, d, 0, c.keep), c.want)
		if len(d.Read(0)) != c.size {
			t.Errorf("%v: %d bytes", c, len(d.Read(0)))
		}
	}
}

// P11.5, P11.6: crashes that keep any number of the loose bytes, and Open behind them, twice.
func TestTorn(t *testing.T) {
	for count := range 6 {
		for sure := range count + 1 {
			whole := make([][]api.Event, 2)
			d := newDisk(t, 3, 5000)
			for i := range whole {
				whole[i] = eventsOf(2, i, count)
				for k, e := range whole[i] {
					expect(t, "Append", Append(d, i, e), api.OK)
					if k < sure {
						d.Sync(i)
					}
				}
			}
			loose := len(d.Read(0)) - d.Synced(0)
			for keep := -1; keep <= loose+1; keep++ {
				crashAndOpen(t, d.Copy(), whole, sure, []int{keep, loose - keep})
			}
		}
	}
}

// crashAndOpen lets a disk crash whose branches have these events, of which the first are sure.
func crashAndOpen(t *testing.T, d *disk.Disk, whole [][]api.Event, sure int, keep []int) {
	t.Helper()
	d.Crash(keep)
	for i, had := range whole {
		log, _ := checkLoad(t, d, i)
		if len(log) < sure || len(log) > len(had) || !sameLog(log, had[:len(log)]) {
			t.Fatalf("keep %d: branch %d had %d, %d of them sure, and has %d", keep, i, had, sure, log)
		}
		if all := len(d.Read(i)) == len(logOf(had...)); all && len(log) != len(had) {
			t.Fatalf("keep %d: all bytes of branch %d stand, and %d of %d events", keep, i, len(log), len(had))
		}
	}
	logs, e := checkOpen(t, d)
	expect(t, "Open", e, api.OK)
	openedAgain(t, d, logs)
}

// openedAgain is told what Open told: it asks it again, and whether all but what is loose and whole is synced.
func openedAgain(t *testing.T, d *disk.Disk, logs [][]api.Event) {
	t.Helper()
	for i, log := range logs {
		if again, size := checkLoad(t, d, i); !sameLog(again, log) || size != len(d.Read(i)) || d.Synced(i) > size {
			t.Fatalf("branch %d: %d, %d of %d bytes", i, again, size, len(d.Read(i)))
		}
	}
	was := d.Copy()
	for _, d := range []*disk.Disk{dead(d), d} {
		if again, e := checkOpen(t, d); !sameLogs(again, logs) || e != api.OK {
			t.Fatalf("again: %d, %d; want %d", again, e, logs)
		}
	}
	sameDisk(t, d, was)
}

// P11.6: with something behind what is whole all is synced behind Open; without it as much as was.
func TestAgain(t *testing.T) {
	for name, tail := range tails() {
		d := loaded(t, tail)
		logs, e := checkOpen(t, d)
		expect(t, name, e, api.OK)
		if d.Synced(0) != 22 || d.Synced(1) != 11 {
			t.Errorf("%s: %d and %d are synced", name, d.Synced(0), d.Synced(1))
		}
		openedAgain(t, d, logs)
	}
}

// Each call of no disk, and of one that nothing made.
func TestNoDisk(t *testing.T) {
	for _, d := range []*disk.Disk{nil, {}} {
		expect(t, "Begin", Begin(d, "a"), api.ErrNil)
		if text, e := Told(d); text != "" || e != api.ErrNil {
			t.Errorf("Told: %q, %d", text, e)
		}
		for _, i := range append(far(), 0, 1) {
			expect(t, "Append", Append(d, i, ev(api.EvStart, 1, 1)), api.ErrNil)
			expect(t, "Append of what is not right", Append(d, i, api.Event{}), api.ErrNil)
			if log, size := Load(d, i); len(log) != 0 || size != 0 {
				t.Errorf("Load: %d, %d", log, size)
			}
			expect(t, "Keep", Keep(d, i, 0), api.ErrNil)
			expect(t, "Keep", Keep(d, i, -1), api.ErrNil)
		}
		if logs, e := Open(d); len(logs) != 0 || e != api.ErrNil {
			t.Errorf("Open: %d, %d", logs, e)
		}
	}
}

// A disk of one file has no branches; its file holds a text.
func TestOneFile(t *testing.T) {
	d := newDisk(t, 1, 100)
	expect(t, "Begin", checkBegin(t, d, "ab"), api.OK)
	for _, i := range append(far(), 0, 1) {
		expect(t, "Append", checkAppend(t, d, i, ev(api.EvStart, 1, 1)), api.ErrArg)
		expect(t, "Append", checkAppend(t, d, i, ev(api.EvStart, 1)), api.ErrArg)
		expect(t, "Keep", checkKeep(t, d, i, 0), api.ErrArg)
		if log, size := checkLoad(t, d, i); len(log) != 0 || size != 0 {
			t.Errorf("Load: %d, %d", log, size)
		}
	}
	if logs, e := checkOpen(t, d); len(logs) != 0 || e != api.OK {
		t.Errorf("Open: %d, %d", logs, e)
	}
	if text, e := checkTold(t, d); text != "ab" || e != api.OK {
		t.Errorf("Told: %q, %d", text, e)
	}
}

// What is handed in stays, and is not kept.
func TestArgumentsStay(t *testing.T) {
	for _, kind := range []api.EventKind{api.EvStart, 7} {
		room := []int{1, 0, 7, 8}
		d := newDisk(t, 3, 100)
		Append(d, 0, api.Event{Kind: kind, Item: 1, Stamp: room[:2]})
		if !slices.Equal(room, []int{1, 0, 7, 8}) {
			t.Errorf("the stamp is now %d", room)
		}
		was := string(d.Read(0))
		clear(room)
		if string(d.Read(0)) != was {
			t.Errorf("the log is now %x", d.Read(0))
		}
	}
}

// What is told shares no memory with the disk, nor with another answer.
func TestNewMemory(t *testing.T) {
	d := loaded(t, "")
	was := d.Copy()
	one, _ := Load(d, 0)
	two, _ := Load(d, 0)
	logs, _ := Open(d)
	more, _ := Open(d)
	for _, log := range append(slices.Clone(logs), one) {
		for k := range log {
			clear(log[k].Stamp[:cap(log[k].Stamp)])
		}
		clear(log[:cap(log)])
	}
	clear(logs[:cap(logs)])
	sameDisk(t, d, was)
	want := []api.Event{ev(api.EvStart, 1, 1, 0), ev(api.EvOk, 1, 2, 5)}
	if !sameLog(two, want) || !sameLog(more[0], want) || len(more) != 2 || len(more[1]) != 2 {
		t.Errorf("%d; %d", two, more)
	}
	if again, _ := Load(d, 0); !sameLog(again, want) {
		t.Errorf("%d", again)
	}
}

// The chapter's example.
func TestExamples(t *testing.T) {
	d := newDisk(t, 3, 100)
	expect(t, "start", Append(d, 0, ev(api.EvStart, 1, 1, 0)), api.OK)
	expect(t, "ok", Append(d, 0, ev(api.EvOk, 1, 2, 0)), api.OK)
	both := []api.Event{ev(api.EvStart, 1, 1, 0), ev(api.EvOk, 1, 2, 0)}
	if log, size := Load(d, 0); !sameLog(log, both) || size != 22 {
		t.Errorf("%d, %d", log, size)
	}
	expect(t, "with 9 0", Append(d, 0, ev(api.EvStart, 2, 9, 0)), api.OK)
	if log, size := Load(d, 0); !sameLog(log, both) || size != 22 || len(d.Read(0)) != 33 {
		t.Errorf("%d, %d of %d", log, size, len(d.Read(0)))
	}
	expect(t, "with 1", Append(d, 0, ev(api.EvStart, 2, 1)), api.ErrArg)
}

// anyCall does any call of a branch, or of the disk, mostly such as may be done.
func anyCall(t *testing.T, r *rand.Rand, d *disk.Disk) {
	t.Helper()
	n := d.Files() - 1
	i := r.Intn(n+3) - 1
	switch r.Intn(16) {
	case 0, 1, 2, 3:
		log, _ := checkLoad(t, d, i)
		e := ev(api.EventKind(1+r.Intn(6)), 1+r.Intn(63), slices.Repeat([]int{r.Intn(300)}, n)...)
		if i >= 0 && i < n && r.Intn(8) > 0 {
			e.Stamp[i] = len(log) + 1
		}
		checkAppend(t, d, i, e)
	case 4:
		checkAppend(t, d, i, wrongs(n)[r.Intn(len(wrongs(n)))])
	case 5:
		d.Append(i, []byte(textOf(r.Intn(20))))
	case 6, 7:
		d.Sync(i)
	case 8:
		checkKeep(t, d, i, r.Intn(6)-1)
	case 9:
		if logs, e := checkOpen(t, d); e == api.OK {
			openedAgain(t, d, logs)
		}
	case 10:
		checkBegin(t, d, textOf(r.Intn(30)))
	case 11:
		d.Cut(n, r.Intn(1+len(d.Read(n))))
	case 12:
		d.Arm(r.Intn(12) - 3)
	case 13:
		d.Grow(r.Intn(40))
	default:
		keep := make([]int, r.Intn(n+2))
		for k := range keep {
			keep[k] = r.Intn(40) - 2
		}
		d.Crash(keep)
	}
	checkTold(t, d)
}

// P11.1 to P11.7: long runs of any calls.
func TestAnyCalls(t *testing.T) {
	r := rand.New(rand.NewSource(11))
	for range 300 {
		d := newDisk(t, 2+r.Intn(4), r.Intn(300))
		for range 150 {
			anyCall(t, r, d)
		}
	}
}
