package branch

import (
	"encoding/binary"
	"hash/crc32"
	"slices"
	"strings"
	"testing"

	"argosy/api"
	"argosy/disk"
)

// A second reckoning of files, of what they hold, and of what the calls do to a disk.

const top = 1 << 40

func frameOf(body string) string {
	b := binary.BigEndian.AppendUint16(nil, uint16(len(body)))
	b = append(b, body...)
	return string(binary.LittleEndian.AppendUint32(b, crc32.Checksum(b, crc32.MakeTable(crc32.Castagnoli))))
}

func framesOf(bodies ...string) string {
	var b strings.Builder
	for _, body := range bodies {
		b.WriteString(frameOf(body))
	}
	return b.String()
}

// fileOf is the file that holds a text.
func fileOf(text string) string {
	var bodies []string
	for len(text) > 1000 {
		bodies, text = append(bodies, text[:1000]), text[1000:]
	}
	if text != "" {
		bodies = append(bodies, text)
	}
	return framesOf(append(bodies, "")...)
}

// expectTold is the text of which the file has just these bytes.
func expectTold(file string) (string, bool) {
	if len(file) < 6 {
		return "", false
	}
	text := ""
	for rest := file[:len(file)-6]; rest != ""; rest = rest[min(len(rest), 1006):] {
		piece := rest[:min(len(rest), 1006)]
		if len(piece) <= 6 {
			return "", false
		}
		text += piece[2 : len(piece)-4]
	}
	if fileOf(text) != file {
		return "", false
	}
	return text, true
}

func bodyOf(e api.Event) string {
	b := binary.AppendUvarint([]byte{byte(e.Kind)}, uint64(e.Item))
	if e.Kind > 3 {
		b = binary.AppendUvarint(b, uint64(e.Try))
	}
	b = binary.AppendUvarint(b, uint64(len(e.Stamp)))
	for _, n := range e.Stamp {
		b = binary.AppendUvarint(b, uint64(n))
	}
	return string(b)
}

func logOf(events ...api.Event) string {
	var bodies []string
	for _, e := range events {
		bodies = append(bodies, bodyOf(e))
	}
	return framesOf(bodies...)
}

func isRight(e api.Event) bool {
	tries := 0
	if e.Kind > 3 {
		tries = 3
	}
	outside := func(n int) bool { return n < 0 || n > top }
	return e.Kind >= 1 && e.Kind <= 6 && e.Item >= 1 && e.Item <= 63 && e.Try >= 0 && e.Try <= tries &&
		len(e.Stamp) >= 1 && len(e.Stamp) <= 64 && !slices.ContainsFunc(e.Stamp, outside)
}

// expectEvent is the right event that has just these bytes.
func expectEvent(body string) (api.Event, bool) {
	if body == "" {
		return api.Event{}, false
	}
	rest := []byte(body[1:])
	number := func() int {
		n, size := binary.Uvarint(rest)
		rest = rest[max(size, 0):]
		return int(n)
	}
	e := api.Event{Kind: api.EventKind(body[0]), Item: number()}
	if e.Kind > 3 {
		e.Try = number()
	}
	for range min(max(number(), 0), 100) {
		e.Stamp = append(e.Stamp, number())
	}
	return e, isRight(e) && bodyOf(e) == body
}

// expectWhole is the events of what is whole of branch i of n, and the places behind the first none, one, .. of them.
func expectWhole(file string, i, n int) ([]api.Event, []int) {
	var events []api.Event
	ends, at := []int{0}, 0
	for len(file)-at >= 6 {
		size := int(file[at])<<8 + int(file[at+1])
		if size > 1024 || size+6 > len(file)-at {
			break
		}
		body := file[at+2 : at+2+size]
		e, right := expectEvent(body)
		if frameOf(body) != file[at:at+size+6] || !right || len(e.Stamp) != n || e.Stamp[i] != len(ends) {
			break
		}
		at += size + 6
		events, ends = append(events, e), append(ends, at)
	}
	return events, ends
}

// beginBy, appendBy, openBy and keepBy do by a disk's own calls what is to be done.
func beginBy(d *disk.Disk, text string) api.Errno {
	last := d.Files() - 1
	file := string(d.Read(last))
	if len(text) > 65536 {
		return api.ErrBig
	}
	if _, told := expectTold(file); told {
		return api.ErrExists
	}
	if file != "" {
		if e := d.Cut(last, 0); e != api.OK {
			return e
		}
	}
	if e := d.Append(last, []byte(fileOf(text))); e != api.OK {
		return e
	}
	return d.Sync(last)
}

func appendBy(d *disk.Disk, i int, e api.Event) api.Errno {
	n := d.Files() - 1
	if i < 0 || i >= n || !isRight(e) || len(e.Stamp) != n {
		return api.ErrArg
	}
	return d.Append(i, []byte(logOf(e)))
}

func cutBy(d *disk.Disk, i, size int) api.Errno {
	if len(d.Read(i)) > size {
		return d.Cut(i, size)
	}
	return api.OK
}

func openBy(d *disk.Disk) ([][]api.Event, api.Errno) {
	n := d.Files() - 1
	var logs [][]api.Event
	for i := range n {
		events, ends := expectWhole(string(d.Read(i)), i, n)
		if e := cutBy(d, i, ends[len(events)]); e != api.OK {
			return nil, e
		}
		logs = append(logs, events)
	}
	return logs, api.OK
}

func keepBy(d *disk.Disk, i, count int) api.Errno {
	n := d.Files() - 1
	if i < 0 || i >= n {
		return api.ErrArg
	}
	events, ends := expectWhole(string(d.Read(i)), i, n)
	if count < 0 || count > len(events) {
		return api.ErrArg
	}
	return cutBy(d, i, ends[count])
}

// fuseOf is how many writes a disk does more, up to 20; -1: it is down.
func fuseOf(d *disk.Disk) int {
	if d.Down() {
		return -1
	}
	d = d.Copy()
	done := 0
	for done < 20 && d.Sync(0) == api.OK {
		done++
	}
	return done
}

// sameDisk holds all that a disk tells against another one.
func sameDisk(t *testing.T, d, want *disk.Disk) {
	t.Helper()
	if d.Files() != want.Files() || d.Room() != want.Room() || d.Down() != want.Down() || fuseOf(d) != fuseOf(want) {
		t.Fatalf("%d files, room %d, down %t, fuse %d; want %d, %d, %t, %d", d.Files(), d.Room(), d.Down(), fuseOf(d), want.Files(), want.Room(), want.Down(), fuseOf(want))
	}
	for i := range want.Files() {
		if string(d.Read(i)) != string(want.Read(i)) || d.Synced(i) != want.Synced(i) {
			t.Fatalf("file %d: %x, %d synced; want %x, %d", i, d.Read(i), d.Synced(i), want.Read(i), want.Synced(i))
		}
	}
}

func sameEvent(a, b api.Event) bool {
	return a.Kind == b.Kind && a.Item == b.Item && a.Try == b.Try && slices.Equal(a.Stamp, b.Stamp)
}

func sameLog(a, b []api.Event) bool { return slices.EqualFunc(a, b, sameEvent) }

func sameLogs(a, b [][]api.Event) bool { return slices.EqualFunc(a, b, sameLog) }

// checkBegin and those below do a call, and hold its answer and the disk against the second reckoning.
func checkBegin(t *testing.T, d *disk.Disk, text string) api.Errno {
	t.Helper()
	other := d.Copy()
	want := beginBy(other, text)
	e := Begin(d, text)
	if e != want {
		t.Fatalf("Begin of %d bytes: %d, want %d", len(text), e, want)
	}
	sameDisk(t, d, other)
	return e
}

func checkTold(t *testing.T, d *disk.Disk) (string, api.Errno) {
	t.Helper()
	other := d.Copy()
	want, told := expectTold(string(d.Read(d.Files() - 1)))
	text, e := Told(d)
	if told && (text != want || e != api.OK) || !told && (text != "" || e != api.ErrNone) {
		t.Fatalf("Told: %q, %d; want %q, %t", text, e, want, told)
	}
	sameDisk(t, d, other)
	return text, e
}

func checkAppend(t *testing.T, d *disk.Disk, i int, e api.Event) api.Errno {
	t.Helper()
	other := d.Copy()
	want := appendBy(other, i, e)
	fault := Append(d, i, e)
	if fault != want {
		t.Fatalf("Append(%d, %d): %d, want %d", i, e, fault, want)
	}
	sameDisk(t, d, other)
	return fault
}

func checkLoad(t *testing.T, d *disk.Disk, i int) ([]api.Event, int) {
	t.Helper()
	other := d.Copy()
	var want []api.Event
	size, n := 0, d.Files()-1
	if i >= 0 && i < n {
		events, ends := expectWhole(string(d.Read(i)), i, n)
		want, size = events, ends[len(events)]
	}
	log, got := Load(d, i)
	if !sameLog(log, want) || got != size {
		t.Fatalf("Load(%d): %d, %d; want %d, %d", i, log, got, want, size)
	}
	sameDisk(t, d, other)
	return log, got
}

func checkOpen(t *testing.T, d *disk.Disk) ([][]api.Event, api.Errno) {
	t.Helper()
	other := d.Copy()
	want, wantE := openBy(other)
	logs, e := Open(d)
	if !sameLogs(logs, want) || e != wantE {
		t.Fatalf("Open: %d, %d; want %d, %d", logs, e, want, wantE)
	}
	sameDisk(t, d, other)
	return logs, e
}

func checkKeep(t *testing.T, d *disk.Disk, i, n int) api.Errno {
	t.Helper()
	other := d.Copy()
	want := keepBy(other, i, n)
	e := Keep(d, i, n)
	if e != want {
		t.Fatalf("Keep(%d, %d): %d, want %d", i, n, e, want)
	}
	sameDisk(t, d, other)
	return e
}
