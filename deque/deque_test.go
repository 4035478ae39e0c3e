package deque

import (
	"math"
	"math/rand"
	"reflect"
	"slices"
	"testing"

	"argosy/api"
)

// numbered is a job of which all that may be has that number.
func numbered(n int) api.Job {
	return api.Job{Key: api.Key{Item: n}, Token: n, Stamp: []int{n, -n}}
}

// filled is a deque with the jobs from one number up to another.
func filled(t *testing.T, from, to int) *Deque {
	t.Helper()
	d := New()
	for n := from; n <= to; n++ {
		if e := d.Push(numbered(n)); e != api.OK {
			t.Fatalf("Push of %d: %d", n, int(e))
		}
	}
	return d
}

// expectJobs holds a deque against the numbers of its jobs, from the top down.
func expectJobs(t *testing.T, d *Deque, numbers ...int) {
	t.Helper()
	var want []api.Job
	for _, n := range numbers {
		want = append(want, numbered(n))
	}
	if l := d.List(); !slices.EqualFunc(l, want, same) || d.Len() != len(want) {
		t.Fatalf("%v, %d of them; want %v", l, d.Len(), want)
	}
}

func expectJob(t *testing.T, j api.Job, e api.Errno, number int) {
	t.Helper()
	if !same(j, numbered(number)) || e != api.OK {
		t.Fatalf("%v, %d; want %d", j, int(e), number)
	}
}

func expectNone(t *testing.T, d *Deque) {
	t.Helper()
	if j, e := d.Pop(); !same(j, api.Job{}) || e != api.ErrNone {
		t.Fatalf("Pop: %v, %d", j, int(e))
	}
	if j, e := d.Steal(); !same(j, api.Job{}) || e != api.ErrNone {
		t.Fatalf("Steal: %v, %d", j, int(e))
	}
	if n := d.Drop(api.Key{}); n != 0 {
		t.Fatalf("Drop: %d", n)
	}
	expectJobs(t, d)
}

func count(from, to int) []int {
	var l []int
	for n := from; n <= to; n++ {
		l = append(l, n)
	}
	return l
}

// P16.1, P16.2: no deque, and one that New did not make.
func TestNoDeque(t *testing.T) {
	for _, d := range []*Deque{nil, {}, new(Deque)} {
		for range 2 {
			if e := d.Push(numbered(1)); e != api.ErrNil {
				t.Errorf("Push: %d", int(e))
			}
			if j, e := d.Pop(); !same(j, api.Job{}) || e != api.ErrNil {
				t.Errorf("Pop: %v, %d", j, int(e))
			}
			if j, e := d.Steal(); !same(j, api.Job{}) || e != api.ErrNil {
				t.Errorf("Steal: %v, %d", j, int(e))
			}
			if n, l := d.Drop(numbered(1).Key), d.List(); n != 0 || len(l) != 0 || d.Len() != 0 {
				t.Errorf("Drop: %d; List: %v; Len: %d", n, l, d.Len())
			}
		}
		if d != nil && !reflect.DeepEqual(*d, Deque{}) {
			t.Errorf("%v: something was done", *d)
		}
	}
}

// P16.1, P16.2: a new deque is empty.
func TestNew(t *testing.T) {
	d := New()
	if d == nil {
		t.Fatal("none")
	}
	expectNone(t, d)
	expectNone(t, d)
}

// P16.4: the example of the chapter.
func TestExample(t *testing.T) {
	const a, b, c = 1, 2, 3
	d := filled(t, a, c)
	j, e := d.Steal()
	expectJob(t, j, e, a)
	j, e = d.Pop()
	expectJob(t, j, e, c)
	expectJobs(t, d, b)
}

// P16.1: 128 jobs are there at the most, wherever they came from.
func TestFull(t *testing.T) {
	for _, gone := range []int{0, 1, 127, 128, 129, 300} {
		d := New()
		for n := range gone {
			d.Push(numbered(n))
			d.Steal()
		}
		for n := 1; n <= 128; n++ {
			if e := d.Push(numbered(n)); e != api.OK || d.Len() != n {
				t.Fatalf("Push of %d: %d, %d jobs", n, int(e), d.Len())
			}
		}
		for range 3 {
			if e := d.Push(numbered(129)); e != api.ErrFull {
				t.Fatalf("Push of one more: %d", int(e))
			}
			expectJobs(t, d, count(1, 128)...)
		}
	}
}

// P16.1: a full deque that has less takes as many again, at its bottom.
func TestPushAgain(t *testing.T) {
	for _, c := range []struct {
		name string
		less func(d *Deque)
		left []int
	}{
		{"Pop", func(d *Deque) { d.Pop() }, count(1, 127)},
		{"Steal", func(d *Deque) { d.Steal() }, count(2, 128)},
		{"Drop at the top", func(d *Deque) { d.Drop(numbered(1).Key) }, count(2, 128)},
		{"Drop at the bottom", func(d *Deque) { d.Drop(numbered(128).Key) }, count(1, 127)},
		{"Drop between", func(d *Deque) { d.Drop(numbered(64).Key) }, append(count(1, 63), count(65, 128)...)},
		{"Drop of none", func(d *Deque) { d.Drop(numbered(129).Key) }, count(1, 128)},
		{"Pop and Steal", func(d *Deque) { d.Pop(); d.Steal(); d.Pop() }, count(2, 126)},
		{"Drop of three", func(d *Deque) { d.Drop(numbered(1).Key); d.Drop(numbered(2).Key); d.Drop(numbered(4).Key) }, append([]int{3}, count(5, 128)...)},
	} {
		d, all := filled(t, 1, 128), c.left
		c.less(d)
		for n := 201; len(all) < 128; n++ {
			if e := d.Push(numbered(n)); e != api.OK {
				t.Fatalf("%s: Push: %d", c.name, int(e))
			}
			all = append(slices.Clone(all), n)
			expectJobs(t, d, all...)
		}
		if e := d.Push(numbered(300)); e != api.ErrFull {
			t.Errorf("%s: Push of one more: %d", c.name, int(e))
		}
		expectJobs(t, d, all...)
	}
}

// P16.1, P16.4: Pop tells the lowest job, down to the last, and then none.
func TestPop(t *testing.T) {
	for _, n := range []int{1, 2, 3, 127, 128} {
		d := filled(t, 1, n)
		for k := n; k > 0; k-- {
			j, e := d.Pop()
			expectJob(t, j, e, k)
			expectJobs(t, d, count(1, k-1)...)
		}
		expectNone(t, d)
	}
}

// P16.1, P16.4: Steal tells the highest job, down to the last, and then none.
func TestSteal(t *testing.T) {
	for _, n := range []int{1, 2, 3, 127, 128} {
		d := filled(t, 1, n)
		for k := 1; k <= n; k++ {
			j, e := d.Steal()
			expectJob(t, j, e, k)
			expectJobs(t, d, count(k+1, n)...)
		}
		expectNone(t, d)
	}
}

// P16.1: the last job goes by either end, and a deque that was emptied takes jobs as a new one does.
func TestLast(t *testing.T) {
	d := New()
	for n := 1; n < 400; n++ {
		d.Push(numbered(n))
		ends := []func() (api.Job, api.Errno){d.Pop, d.Steal}
		j, e := ends[n/3%2]()
		expectJob(t, j, e, n)
		expectNone(t, d)
	}
	d.Push(numbered(1))
	if n := d.Drop(numbered(1).Key); n != 1 {
		t.Errorf("Drop: %d", n)
	}
	expectNone(t, d)
	d.Push(numbered(2))
	d.Push(numbered(3))
	expectJobs(t, d, 2, 3)
}

// P16.2: Drop of keys that none, one, several or all have, at the top, at the bottom and between.
func TestDrop(t *testing.T) {
	for _, c := range []struct{ keys, left string }{
		{"", ""},
		{"x", ""},
		{"a", "a"},
		{"xx", ""},
		{"abc", "abc"},
		{"xab", "ab"},
		{"abx", "ab"},
		{"axb", "ab"},
		{"xaxbx", "ab"},
		{"axxb", "ab"},
		{"xxab", "ab"},
		{"abxx", "ab"},
		{"axbxcxd", "abcd"},
		{"xabxcdxx", "abcd"},
		{"xxxxxxxa", "a"},
		{"axxxxxxx", "a"},
		{"ccxbbxaax", "ccbbaa"},
	} {
		d, want := New(), []api.Job(nil)
		for i, k := range c.keys {
			j := api.Job{Key: api.Key{Item: int(k)}, Begun: i%2 == 0, Token: i, Stamp: []int{i}}
			d.Push(j)
			if k != 'x' {
				want = append(want, j)
			}
		}
		if n := d.Drop(api.Key{Item: 'x'}); n != len(c.keys)-len(c.left) || d.Len() != len(c.left) {
			t.Errorf("%q: %d, %d left", c.keys, n, d.Len())
		}
		if l := d.List(); !slices.EqualFunc(l, want, same) {
			t.Errorf("%q: %v; want %v", c.keys, l, want)
		}
		if n := d.Drop(api.Key{Item: 'x'}); n != 0 || d.Len() != len(c.left) {
			t.Errorf("%q: %d again, %d left", c.keys, n, d.Len())
		}
	}
}

// P16.2: all 128 jobs of one key.
func TestDropAll(t *testing.T) {
	d := New()
	for range 128 {
		d.Push(numbered(7))
	}
	if n := d.Drop(numbered(8).Key); n != 0 || d.Len() != 128 {
		t.Errorf("%d, %d left", n, d.Len())
	}
	if n := d.Drop(numbered(7).Key); n != 128 {
		t.Errorf("%d", n)
	}
	expectNone(t, d)
}

// unlike are keys of which each differs from another one in one part alone.
func unlike() []api.Key {
	var l []api.Key
	for _, item := range []int{math.MinInt, -1, 0, 1, 63, 64, 1 << 32, math.MaxInt} {
		for _, try := range []int{math.MinInt, -1, 0, 1, 3, 1 << 32, math.MaxInt} {
			l = append(l, api.Key{Item: item, Try: try}, api.Key{Item: item, Undo: true, Try: try})
		}
	}
	return l
}

// P16.2: all three parts of a key count, and nothing else of a job.
func TestDropByKey(t *testing.T) {
	keys := unlike()
	for at, k := range keys {
		d, want := New(), []api.Job(nil)
		for i, other := range keys {
			j := api.Job{Key: other, Begun: i%2 == 0, Token: i % 3, Stamp: []int{i % 5}}
			if e := d.Push(j); e != api.OK {
				t.Fatalf("Push of %d: %d", i, int(e))
			}
			if i != at {
				want = append(want, j)
			}
		}
		d.Push(api.Job{Key: k})
		d.Push(api.Job{Key: k, Begun: true, Token: -5, Stamp: []int{9, 9}})
		if n := d.Drop(k); n != 3 || !slices.EqualFunc(d.List(), want, same) {
			t.Errorf("%v: %d, %v left", k, n, d.List())
		}
	}
}

// P16.1, P16.2: jobs are told as they were pushed, whatever stands in them.
func TestAnyJob(t *testing.T) {
	long := make([]int, 5000)
	for i := range long {
		long[i] = i * i
	}
	var jobs []api.Job
	for _, stamp := range [][]int{nil, {}, {0}, {math.MinInt, math.MaxInt}, make([]int, 64), make([]int, 65), long} {
		for _, token := range []int{math.MinInt, -1, 0, 63, math.MaxInt} {
			key := api.Key{Item: -token / 2, Undo: token > 0, Try: token / 3}
			jobs = append(jobs, api.Job{Key: key, Token: token, Stamp: stamp}, api.Job{Key: key, Begun: true, Token: token, Stamp: stamp})
		}
	}
	d := New()
	for _, j := range jobs {
		if e := d.Push(j); e != api.OK {
			t.Fatalf("Push: %d", int(e))
		}
	}
	if !slices.EqualFunc(d.List(), jobs, same) {
		t.Fatalf("%v; want %v", d.List(), jobs)
	}
	for len(jobs) > 0 {
		high, e := d.Steal()
		low, fault := d.Pop()
		if last := len(jobs) - 1; e != api.OK || fault != api.OK || !same(high, jobs[0]) || !same(low, jobs[last]) {
			t.Fatalf("%v, %d; %v, %d; want %v and %v", high, int(e), low, int(fault), jobs[0], jobs[last])
		}
		jobs = jobs[1 : len(jobs)-1]
	}
	expectNone(t, d)
}

// P16.1: what is pushed is not kept, and not changed.
func TestPushKeepsNothing(t *testing.T) {
	behind := []int{1, -1, 5, 6}
	j := api.Job{Key: api.Key{Item: 1}, Token: 1, Stamp: behind[:2]}
	d := New()
	d.Push(j)
	d.Push(j)
	j.Stamp[0], j.Token = 9, 9
	expectJobs(t, d, 1, 1)
	first, _ := d.Pop()
	first.Stamp[1] = 8
	first.Stamp = append(first.Stamp, 7)
	expectJobs(t, d, 1)
	second, e := d.Steal()
	expectJob(t, second, e, 1)
	if !slices.Equal(behind, []int{9, -1, 5, 6}) || !slices.Equal(first.Stamp, []int{1, 8, 7}) {
		t.Errorf("%v, %v", behind, first.Stamp)
	}
}

// turn turns all that can be turned of jobs, and writes into what room there is behind them.
func turn(l []api.Job) {
	for i := range l {
		for k := range l[i].Stamp {
			l[i].Stamp[k] = 77
		}
		_ = append(l[i].Stamp, 77, 77)
		l[i] = api.Job{Token: 77}
	}
	_ = append(l, numbered(77), numbered(77))
}

// P16.2: a List that is turned turns no deque, and no other List.
func TestListIsTurned(t *testing.T) {
	for _, n := range []int{1, 2, 3, 5, 64, 126} {
		d := filled(t, 1, n+2)
		d.Steal()
		d.Pop()
		other := d.List()
		for i, j := range d.List() {
			turn([]api.Job{j})
			expectJob(t, other[i], api.OK, i+2)
		}
		turn(d.List())
		d.List()[n-1].Stamp[0] = 77
		for i, j := range other {
			expectJob(t, j, api.OK, i+2)
		}
		expectJobs(t, d, count(2, n+1)...)
		turn(other)
		expectJobs(t, d, count(2, n+1)...)
	}
}

// P16.2: no two stamps of one List share.
func TestListOfStamps(t *testing.T) {
	d := filled(t, 1, 6)
	l := d.List()
	for i := range l {
		l[i].Stamp = append(l[i].Stamp, 50, 51)[:2]
		l[i].Stamp[1] = 60 + i
	}
	for i, j := range l {
		if !slices.Equal(j.Stamp, []int{i + 1, 60 + i}) {
			t.Errorf("%d: %v", i, j.Stamp)
		}
	}
}

// P16.2: a deque that goes on turns no List that was told, and no job that was taken.
func TestDequeGoesOn(t *testing.T) {
	r := rand.New(rand.NewSource(2))
	d, l := New(), &ledger{}
	var lists, told [][]api.Job
	var takenJobs []api.Job
	for at := range 600 {
		switch r.Intn(6) {
		case 0, 1, 2:
			d.Push(numbered(at))
			l.push(numbered(at))
		case 3:
			if j, e := d.Pop(); e == api.OK {
				takenJobs = append(takenJobs, j)
				l.pop()
			}
		case 4:
			if j, e := d.Steal(); e == api.OK {
				takenJobs = append(takenJobs, j)
				l.steal()
			}
		default:
			k := numbered(at - r.Intn(9)).Key
			d.Drop(k)
			l.drop(k.Item, k.Undo, k.Try)
		}
		lists, told = append(lists, d.List()), append(told, l.list())
	}
	for i := range lists {
		if !slices.EqualFunc(lists[i], told[i], same) {
			t.Fatalf("the list behind call %d: %v; want %v", i, lists[i], told[i])
		}
	}
	for _, j := range takenJobs {
		expectJob(t, j, api.OK, j.Key.Item)
	}
}

// P16.1: a job that was taken, and is turned, turns none of those that are left.
func TestTakenIsTurned(t *testing.T) {
	d := filled(t, 1, 9)
	for k := range 4 {
		low, _ := d.Pop()
		high, _ := d.Steal()
		turn([]api.Job{low, high})
		expectJobs(t, d, count(k+2, 8-k)...)
		d.Push(numbered(8 - k))
		d.Pop()
	}
	expectJobs(t, d, 5)
}

// P16.3: what is there no more is kept no more, either.
func TestNothingIsKept(t *testing.T) {
	d := filled(t, 1, 4)
	lay := d.jobs
	d.Pop()
	d.Steal()
	d.Drop(numbered(2).Key)
	expectJobs(t, d, 3)
	for _, j := range lay {
		if j.Key.Item != 3 && !same(j, api.Job{}) {
			t.Errorf("%v is kept", j)
		}
	}
}

// P16.3: of a row that is cut in two, what is put behind the one part turns nothing of the other.
func TestCut(t *testing.T) {
	for at := range 4 {
		upper, lower := row{numbered(0), numbered(1), numbered(2)}.cut(at)
		_, _ = append(upper, numbered(8), numbered(9)), append(lower, numbered(8), numbered(9))
		if len(upper) != at || len(lower) != 3-at {
			t.Fatalf("%d: %v, %v", at, upper, lower)
		}
		for i, j := range slices.Concat(upper, lower) {
			expectJob(t, j, api.OK, i)
		}
	}
}

// P16.1 to P16.4: deques have nothing of one another.
func TestApart(t *testing.T) {
	a, b := filled(t, 1, 5), filled(t, 11, 13)
	a.Drop(numbered(12).Key)
	a.Pop()
	b.Steal()
	a.Push(numbered(20))
	b.Push(numbered(30))
	expectJobs(t, a, 1, 2, 3, 4, 20)
	expectJobs(t, b, 12, 13, 30)
	expectNone(t, New())
}

// gone are the tokens of one list that another one has not.
func gone(ahead, behind []api.Job) []int {
	var l []int
	for _, j := range ahead {
		if !slices.ContainsFunc(behind, func(k api.Job) bool { return k.Token == j.Token }) {
			l = append(l, j.Token)
		}
	}
	return l
}

// P16.3: each job of a long course of calls, known by its token, is popped, stolen, dropped or still there, once.
func TestEachOnce(t *testing.T) {
	r := rand.New(rand.NewSource(3))
	d := New()
	pushed, seen := 0, map[int]int{}
	for range 20000 {
		ahead := d.List()
		switch n := r.Intn(100); {
		case n < 52:
			if d.Push(api.Job{Key: anyKey(r), Token: pushed}) == api.OK {
				pushed++
			}
		case n < 75:
			if j, e := d.Pop(); e == api.OK {
				seen[j.Token]++
			}
		case n < 98:
			if j, e := d.Steal(); e == api.OK {
				seen[j.Token]++
			}
		default:
			n := d.Drop(anyKey(r))
			lost := gone(ahead, d.List())
			for _, token := range lost {
				seen[token]++
			}
			if n != len(lost) {
				t.Fatalf("Drop: %d; %d are gone", n, len(lost))
			}
		}
	}
	left := d.List()
	for _, j := range left {
		seen[j.Token]++
	}
	for token := range pushed {
		if seen[token] != 1 {
			t.Errorf("job %d: %d times", token, seen[token])
		}
	}
	if len(seen) != pushed || pushed < 5000 || d.Len() != len(left) {
		t.Errorf("%d jobs seen, %d pushed, %d left", len(seen), pushed, d.Len())
	}
}
