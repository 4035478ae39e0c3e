package deque

import (
	"math/rand"
	"slices"
	"testing"

	"argosy/api"
)

// The second reckoning: a ledger of all that was ever pushed, in its order, each with what became of it. The lowest job is the last of those that are there, the highest the first.

type fate int

const (
	there fate = iota
	popped
	stolen
	dropped
)

type entry struct {
	job  api.Job
	fate fate
}

type ledger struct {
	entries []entry
	count   int // how many are there
}

func (l *ledger) push(j api.Job) api.Errno {
	if l.count > 127 {
		return api.ErrFull
	}
	j.Stamp = slices.Clone(j.Stamp)
	l.entries = append(l.entries, entry{j, there})
	l.count++
	return api.OK
}

func (l *ledger) turn(at int, f fate) {
	l.entries[at].fate = f
	l.count--
}

func (l *ledger) pop() (api.Job, api.Errno) {
	for i := len(l.entries) - 1; i >= 0; i-- {
		if l.entries[i].fate == there {
			l.turn(i, popped)
			return l.entries[i].job, api.OK
		}
	}
	return api.Job{}, api.ErrNone
}

func (l *ledger) steal() (api.Job, api.Errno) {
	for i := range l.entries {
		if l.entries[i].fate == there {
			l.turn(i, stolen)
			return l.entries[i].job, api.OK
		}
	}
	return api.Job{}, api.ErrNone
}

func (l *ledger) drop(item int, undo bool, try int) int {
	n := 0
	for i, e := range l.entries {
		k := e.job.Key
		if e.fate == there && k.Item == item && k.Undo == undo && k.Try == try {
			l.turn(i, dropped)
			n++
		}
	}
	return n
}

func (l *ledger) list() []api.Job {
	var jobs []api.Job
	for _, e := range l.entries {
		if e.fate == there {
			jobs = append(jobs, e.job)
		}
	}
	return jobs
}

func same(a, b api.Job) bool {
	return a.Key == b.Key && a.Begun == b.Begun && a.Token == b.Token && slices.Equal(a.Stamp, b.Stamp)
}

// check holds all that a deque tells against the ledger.
func check(t *testing.T, d *Deque, l *ledger) {
	t.Helper()
	if got, want := d.List(), l.list(); !slices.EqualFunc(got, want, same) || d.Len() != len(want) {
		t.Fatalf("%v, %d of them; want %v", got, d.Len(), want)
	}
}

// step is a call of both; it tells whether both answer the same.
type step struct {
	name string
	do   func(d *Deque, l *ledger) bool
}

func doPush(j api.Job) step {
	return step{"Push", func(d *Deque, l *ledger) bool { return d.Push(j) == l.push(j) }}
}

func doPop() step {
	return step{"Pop", func(d *Deque, l *ledger) bool {
		j, e := d.Pop()
		want, wantE := l.pop()
		return same(j, want) && e == wantE
	}}
}

func doSteal() step {
	return step{"Steal", func(d *Deque, l *ledger) bool {
		j, e := d.Steal()
		want, wantE := l.steal()
		return same(j, want) && e == wantE
	}}
}

func doDrop(k api.Key) step {
	return step{"Drop", func(d *Deque, l *ledger) bool { return d.Drop(k) == l.drop(k.Item, k.Undo, k.Try) }}
}

// take does a step, and holds answers and deque against the ledger.
func take(t *testing.T, d *Deque, l *ledger, s step) {
	t.Helper()
	if !s.do(d, l) {
		t.Fatalf("%s of %v: another answer than the ledger's", s.name, l.list())
	}
	check(t, d, l)
}

// P16.1 to P16.4: all ways of seven calls behind one another.
func TestAllWays(t *testing.T) {
	const deep = 7
	a, b := api.Key{Item: 1}, api.Key{Item: 2}
	calls := []func(at int) step{
		func(at int) step { return doPush(api.Job{Key: a, Token: at, Stamp: []int{at}}) },
		func(at int) step { return doPush(api.Job{Key: b, Begun: true, Token: at, Stamp: []int{at, 1}}) },
		func(int) step { return doPop() },
		func(int) step { return doSteal() },
		func(int) step { return doDrop(a) },
		func(int) step { return doDrop(b) },
	}
	ways := 1
	for range deep {
		ways *= len(calls)
	}
	for way := range ways {
		d, l := New(), &ledger{}
		for at := range deep {
			take(t, d, l, calls[way%len(calls)](at))
			way /= len(calls)
		}
	}
}

// anyKey is one of some keys, of which many differ in one part alone.
func anyKey(r *rand.Rand) api.Key {
	return api.Key{Item: r.Intn(3), Undo: r.Intn(2) == 0, Try: r.Intn(2)}
}

func anyJob(r *rand.Rand) api.Job {
	stamp := make([]int, r.Intn(5))
	for i := range stamp {
		stamp[i] = r.Intn(1000)
	}
	return api.Job{Key: anyKey(r), Begun: r.Intn(2) == 0, Token: r.Intn(1 << 30), Stamp: stamp}
}

// anyStep is any call; of a hundred as many push as it is told.
func anyStep(r *rand.Rand, pushes int) step {
	switch n := r.Intn(100); {
	case n < pushes:
		return doPush(anyJob(r))
	case n%16 == 0:
		return doDrop(anyKey(r))
	case n%2 == 0:
		return doPop()
	default:
		return doSteal()
	}
}

// P16.1 to P16.4: long runs of any calls, through full deques and empty ones, over and over.
func TestAnyCalls(t *testing.T) {
	r := rand.New(rand.NewSource(16))
	full, empty := 0, 0
	for range 20 {
		d, l := New(), &ledger{}
		for range 12 {
			pushes := []int{10, 50, 90, 100}[r.Intn(4)]
			for range 150 {
				take(t, d, l, anyStep(r, pushes))
				switch l.count {
				case 0:
					empty++
				case 128:
					full++
				}
			}
		}
	}
	if full < 1000 || empty < 1000 {
		t.Errorf("full %d times, empty %d times", full, empty)
	}
}
