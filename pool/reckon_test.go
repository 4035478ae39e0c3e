package pool

import (
	"math"
	"math/big"
	"math/rand"
	"slices"
	"testing"

	"argosy/api"
)

// The second reckoning: a ledger of all jobs that were ever pushed, in that order, each with where it is. No job comes into a deque but by Push, so of those that wait at a worker the last one is the lowest.

type place int

const (
	waits place = iota
	held
	gone
)

type entry struct {
	job    api.Job
	place  place
	worker int
}

type ledger struct {
	n       int
	entries []entry
}

// at tells the entries that are at a worker, in the order in which they were pushed.
func (l *ledger) at(w int, where place) []*entry {
	var all []*entry
	for i := range l.entries {
		if e := &l.entries[i]; e.place == where && e.worker == w {
			all = append(all, e)
		}
	}
	return all
}

func (l *ledger) push(w int, j api.Job) api.Errno {
	if w < 0 || w >= l.n {
		return api.ErrArg
	}
	if len(l.at(w, waits)) > 127 {
		return api.ErrFull
	}
	j.Stamp = slices.Clone(j.Stamp)
	l.entries = append(l.entries, entry{j, waits, w})
	return api.OK
}

// far tells how far a worker is from a pick on, in the circle.
func (l *ledger) far(w, pick int) int64 {
	n := big.NewInt(int64(l.n))
	d := new(big.Int).Sub(big.NewInt(int64(w)), big.NewInt(int64(pick)))
	return d.Mod(d, n).Int64()
}

// nearest tells which entry another one is to give: of those that wait, or are held, of the workers that have some the nearest one's first.
func (l *ledger) nearest(pick int, where place) *entry {
	var best *entry
	for i := range l.entries {
		e := &l.entries[i]
		if e.place == where && (best == nil || l.far(e.worker, pick) < l.far(best.worker, pick)) {
			best = e
		}
	}
	return best
}

// next tells which entry a worker is to take, nil if there is none.
func (l *ledger) next(w, pick int) *entry {
	if own := l.at(w, held); len(own) > 0 {
		return own[0]
	}
	if own := l.at(w, waits); len(own) > 0 {
		return own[len(own)-1]
	}
	if e := l.nearest(pick, waits); e != nil {
		return e
	}
	return l.nearest(pick, held)
}

func (l *ledger) take(w, pick int) (api.Job, int, api.Errno) {
	if w < 0 || w >= l.n {
		return api.Job{}, 0, api.ErrArg
	}
	e := l.next(w, pick)
	if e == nil {
		return api.Job{}, 0, api.ErrNone
	}
	from := e.worker
	e.place, e.worker = held, w
	return e.job, from, api.OK
}

// of tells the entry that a worker holds.
func (l *ledger) of(w int) (*entry, api.Errno) {
	if w < 0 || w >= l.n {
		return nil, api.ErrArg
	}
	own := l.at(w, held)
	if len(own) == 0 {
		return nil, api.ErrNone
	}
	return own[0], api.OK
}

func (l *ledger) put(w int, j api.Job) api.Errno {
	x, e := l.of(w)
	if e == api.OK {
		j.Stamp = slices.Clone(j.Stamp)
		x.job = j
	}
	return e
}

func (l *ledger) done(w int) api.Errno {
	x, e := l.of(w)
	if e == api.OK {
		x.place = gone
	}
	return e
}

func (l *ledger) heldBy(w int) (api.Job, api.Errno) {
	x, e := l.of(w)
	if e != api.OK {
		return api.Job{}, e
	}
	return x.job, api.OK
}

func (l *ledger) list(w int) []api.Job {
	var jobs []api.Job
	for _, e := range l.at(w, waits) {
		jobs = append(jobs, e.job)
	}
	return jobs
}

func (l *ledger) drop(item int, undo bool, try int) int {
	n := 0
	for i := range l.entries {
		e := &l.entries[i]
		if k := e.job.Key; e.place == waits && k.Item == item && k.Undo == undo && k.Try == try {
			e.place = gone
			n++
		}
	}
	return n
}

func (l *ledger) count() int {
	n := 0
	for _, e := range l.entries {
		if e.place != gone {
			n++
		}
	}
	return n
}

func same(a, b api.Job) bool {
	return a.Key == b.Key && a.Begun == b.Begun && a.Token == b.Token && slices.Equal(a.Stamp, b.Stamp)
}

// check holds all that a pool tells against the ledger.
func check(t *testing.T, p *Pool, l *ledger) {
	t.Helper()
	if p.Len() != l.count() {
		t.Fatalf("%d jobs; want %d", p.Len(), l.count())
	}
	for w := -1; w <= l.n; w++ {
		if got, want := p.List(w), l.list(w); !slices.EqualFunc(got, want, same) {
			t.Fatalf("List(%d): %v; want %v", w, got, want)
		}
		got, e := p.Held(w)
		if want, fault := l.heldBy(w); !same(got, want) || e != fault {
			t.Fatalf("Held(%d): %v, %d; want %v, %d", w, got, int(e), want, int(fault))
		}
	}
}

// step is a call of both; it tells whether both answer the same.
type step struct {
	name string
	do   func(p *Pool, l *ledger) bool
}

func doPush(w int, j api.Job) step {
	return step{"Push", func(p *Pool, l *ledger) bool { return p.Push(w, j) == l.push(w, j) }}
}

func doTake(w, pick int) step {
	return step{"Take", func(p *Pool, l *ledger) bool {
		j, from, e := p.Take(w, pick)
		want, wantFrom, wantE := l.take(w, pick)
		return same(j, want) && from == wantFrom && e == wantE
	}}
}

func doPut(w int, j api.Job) step {
	return step{"Put", func(p *Pool, l *ledger) bool { return p.Put(w, j) == l.put(w, j) }}
}

func doDone(w int) step {
	return step{"Done", func(p *Pool, l *ledger) bool { return p.Done(w) == l.done(w) }}
}

func doDrop(k api.Key) step {
	return step{"Drop", func(p *Pool, l *ledger) bool { return p.Drop(k) == l.drop(k.Item, k.Undo, k.Try) }}
}

// take does a step, and holds answers and pool against the ledger.
func take(t *testing.T, p *Pool, l *ledger, s step) {
	t.Helper()
	if !s.do(p, l) {
		t.Fatalf("%s: another answer than the ledger's, %v", s.name, l.entries)
	}
	check(t, p, l)
}

// P18.1 to P18.6: all ways of so many calls behind one another, of pools of one, two and three workers.
func TestAllWays(t *testing.T) {
	for _, c := range []struct{ n, deep int }{{1, 6}, {2, 5}, {3, 4}} {
		var calls []func(at int) step
		for w := range c.n {
			calls = append(calls,
				func(at int) step { return doPush(w, api.Job{Key: api.Key{Item: w}, Token: at, Stamp: []int{at}}) },
				func(at int) step { return doTake(w, at-2) },
				func(at int) step { return doPut(w, api.Job{Key: api.Key{Item: 1}, Begun: true, Token: at}) },
				func(int) step { return doDone(w) })
		}
		calls = append(calls, func(int) step { return doDrop(api.Key{Item: 1}) })
		ways := 1
		for range c.deep {
			ways *= len(calls)
		}
		for way := range ways {
			p, l := made(t, c.n), &ledger{n: c.n}
			for at := range c.deep {
				take(t, p, l, calls[way%len(calls)](at))
				way /= len(calls)
			}
		}
	}
}

// anyKey is one of some keys, of which many differ in one part alone.
func anyKey(r *rand.Rand) api.Key {
	return api.Key{Item: r.Intn(3), Undo: r.Intn(2) == 0, Try: r.Intn(2)}
}

func anyJob(r *rand.Rand) api.Job {
	stamp := make([]int, r.Intn(5))
	for i := range stamp {
		stamp[i] = r.Intn(1000)
	}
	return api.Job{Key: anyKey(r), Begun: r.Intn(2) == 0, Token: r.Intn(1 << 30), Stamp: stamp}
}

func anyPick(r *rand.Rand) int {
	switch r.Intn(4) {
	case 0:
		return r.Intn(200) - 100
	case 1:
		return math.MaxInt - r.Intn(100)
	case 2:
		return math.MinInt + r.Intn(100)
	default:
		return int(r.Uint64())
	}
}

// anyStep is any call of a pool of so many workers, now and then of one that there is not; of a hundred as many push as it is told.
func anyStep(r *rand.Rand, n, pushes int) step {
	w := r.Intn(n)
	if r.Intn(50) == 0 {
		w = []int{-1, n, n + 1, math.MinInt, math.MaxInt}[r.Intn(5)]
	}
	switch k := r.Intn(100); {
	case k < pushes:
		return doPush(w, anyJob(r))
	case k%16 == 0:
		return doDrop(anyKey(r))
	case k%16 < 8:
		return doTake(w, anyPick(r))
	case k%16 < 10:
		return doPut(w, anyJob(r))
	default:
		return doDone(w)
	}
}

// P18.1 to P18.6: long runs of any calls, of pools of any size, with few jobs and many.
func TestAnyCalls(t *testing.T) {
	r := rand.New(rand.NewSource(18))
	empty, stolen := 0, 0
	for _, n := range []int{1, 2, 3, 4, 5, 7, 8, 16, 31, 63, 64} {
		p, l := made(t, n), &ledger{n: n}
		for range 6 {
			pushes := []int{0, 10, 30, 60}[r.Intn(4)]
			for range 100 {
				take(t, p, l, anyStep(r, n, pushes))
				if l.count() == 0 {
					empty++
				}
			}
		}
		for l.count() > 0 {
			w := r.Intn(n)
			if l.next(w, 0).worker != w {
				stolen++
			}
			take(t, p, l, doTake(w, anyPick(r)))
			take(t, p, l, doDone(w))
		}
	}
	if empty < 100 || stolen < 100 {
		t.Errorf("empty %d times, stolen %d times", empty, stolen)
	}
}

// P18.1: a run in which one worker's deque is filled up, over and over.
func TestAnyCallsFull(t *testing.T) {
	r := rand.New(rand.NewSource(19))
	p, l, full := made(t, 2), &ledger{n: 2}, 0
	for range 1500 {
		s := anyStep(r, 2, 20)
		if r.Intn(3) > 0 {
			s = doPush(1, anyJob(r))
		}
		take(t, p, l, s)
		if len(l.at(1, waits)) == 128 {
			full++
		}
	}
	if full < 100 {
		t.Errorf("full %d times", full)
	}
}
