package pool

import (
	"math"
	"math/rand"
	"reflect"
	"slices"
	"strings"
	"testing"
	"unicode"

	"argosy/api"
)

// A form is a pool in one text: workers with a blank between them, of each the job that it holds (if it holds one), a stroke, and those of its deque from the top down. Each letter is a job; the great one and the small one have the same key.

func keyOf(letter rune) api.Key {
	l := int(unicode.ToLower(letter))
	return api.Key{Item: l, Undo: l%2 == 0, Try: l % 4}
}

func lettered(letter rune) api.Job {
	l := int(letter)
	return api.Job{Key: keyOf(letter), Begun: l%3 == 0, Token: l, Stamp: []int{l, -l}}
}

// letterOf tells a job's letter; a question mark, if it is not that letter's job in all its parts.
func letterOf(j api.Job) string {
	if !same(j, lettered(rune(j.Token))) {
		return "?"
	}
	return string(rune(j.Token))
}

func made(t testing.TB, n int) *Pool {
	t.Helper()
	p, e := New(n)
	if p == nil || e != api.OK {
		t.Fatalf("New(%d): %v, %d", n, p, int(e))
	}
	return p
}

func push(t testing.TB, p *Pool, w int, j api.Job) {
	t.Helper()
	if e := p.Push(w, j); e != api.OK {
		t.Fatalf("Push(%d, %v): %d", w, j, int(e))
	}
}

// formed tells the pool of a form.
func formed(t testing.TB, form string) *Pool {
	t.Helper()
	parts := strings.Split(form, " ")
	p := made(t, len(parts))
	for w, part := range parts {
		held, jobs, _ := strings.Cut(part, "/")
		for _, letter := range held {
			push(t, p, w, lettered(letter))
			if j, from, e := p.Take(w, 0); letterOf(j) != held || from != w || e != api.OK {
				t.Fatalf("%s: Take(%d): %v, %d, %d", form, w, j, from, int(e))
			}
		}
		for _, letter := range jobs {
			push(t, p, w, lettered(letter))
		}
	}
	return p
}

// formOf tells the form of a pool of so many workers, by what it tells of them.
func formOf(p *Pool, n int) string {
	var parts []string
	for w := range n {
		held := ""
		if j, e := p.Held(w); e == api.OK {
			held = letterOf(j)
		} else if !same(j, api.Job{}) || e != api.ErrNone {
			held = "!"
		}
		jobs := ""
		for _, j := range p.List(w) {
			jobs += letterOf(j)
		}
		parts = append(parts, held+"/"+jobs)
	}
	return strings.Join(parts, " ")
}

// expect holds a pool against a form.
func expect(t testing.TB, p *Pool, form string) {
	t.Helper()
	n := strings.Count(form, " ") + 1
	if got, jobs := formOf(p, n), len(form)-2*n+1; got != form || p.Len() != jobs {
		t.Fatalf("%s, %d jobs; want %s, %d", got, p.Len(), form, jobs)
	}
	if e := p.Push(n, api.Job{}); e != api.ErrArg {
		t.Fatalf("%s: a worker %d: %d", form, n, int(e))
	}
}

// expectTake takes a job, and holds what it tells against a letter and a worker; the letter ! is none.
func expectTake(t testing.TB, p *Pool, w, pick int, letter rune, from int) {
	t.Helper()
	j, at, e := p.Take(w, pick)
	if letter == '!' {
		if !same(j, api.Job{}) || at != 0 || e != api.ErrNone {
			t.Fatalf("Take(%d, %d): %v, %d, %d; want none", w, pick, j, at, int(e))
		}
		return
	}
	if !same(j, lettered(letter)) || at != from || e != api.OK {
		t.Fatalf("Take(%d, %d): %v, %d, %d; want %c, %d", w, pick, j, at, int(e), letter, from)
	}
}

// refused tells what each call of a pool answers, and whether beside it all is zero. List, Drop and Len have no error.
func refused(t *testing.T, p *Pool, w int, want api.Errno) {
	t.Helper()
	for _, pick := range []int{math.MinInt, -1, 0, 1, math.MaxInt} {
		if j, from, e := p.Take(w, pick); !same(j, api.Job{}) || from != 0 || e != want {
			t.Errorf("Take(%d, %d): %v, %d, %d", w, pick, j, from, int(e))
		}
	}
	if e := p.Push(w, lettered('z')); e != want {
		t.Errorf("Push(%d): %d", w, int(e))
	}
	if e := p.Put(w, lettered('z')); e != want {
		t.Errorf("Put(%d): %d", w, int(e))
	}
	if e := p.Done(w); e != want {
		t.Errorf("Done(%d): %d", w, int(e))
	}
	if j, e := p.Held(w); !same(j, api.Job{}) || e != want {
		t.Errorf("Held(%d): %v, %d", w, j, int(e))
	}
	if l := p.List(w); len(l) != 0 {
		t.Errorf("List(%d): %v", w, l)
	}
}

// P18.1 to P18.4: no pool, and one that New did not make.
func TestNoPool(t *testing.T) {
	for _, p := range []*Pool{nil, {}, new(Pool)} {
		for range 2 {
			for _, w := range []int{math.MinInt, -1, 0, 1, 63, 64, math.MaxInt} {
				refused(t, p, w, api.ErrNil)
			}
			if n := p.Drop(keyOf('z')); n != 0 || p.Drop(api.Key{}) != 0 || p.Len() != 0 {
				t.Errorf("Drop: %d; Len: %d", n, p.Len())
			}
		}
		if p != nil && !reflect.DeepEqual(*p, Pool{}) {
			t.Errorf("%v: something was done", *p)
		}
	}
}

// P18.1: from 1 to 64 workers, without jobs.
func TestNew(t *testing.T) {
	for _, n := range []int{math.MinInt, -64, -1, 0, 65, 66, 128, 1 << 32, math.MaxInt} {
		if p, e := New(n); p != nil || e != api.ErrArg {
			t.Errorf("New(%d): %v, %d", n, p, int(e))
		}
	}
	for n := 1; n <= 64; n++ {
		p := made(t, n)
		expect(t, p, strings.TrimSpace(strings.Repeat("/ ", n)))
		for w := range n {
			expectTake(t, p, w, w, '!', 0)
			if e, fault := p.Put(w, lettered('z')), p.Done(w); e != api.ErrNone || fault != api.ErrNone {
				t.Fatalf("%d of %d: Put: %d; Done: %d", w, n, int(e), int(fault))
			}
		}
		if k := p.Drop(keyOf('z')); k != 0 {
			t.Errorf("%d: Drop: %d", n, k)
		}
		expect(t, p, strings.TrimSpace(strings.Repeat("/ ", n)))
	}
}

// P18.1 to P18.4: a worker that there is not, with jobs and without, held or not.
func TestNoWorker(t *testing.T) {
	for _, form := range []string{"/", "a/", "/a", "a/b", "/ /", "a/ /", "/ /a", "/ab c/ d/efg", "a/ b/ c/ d/"} {
		p := formed(t, form)
		n := strings.Count(form, " ") + 1
		for _, w := range []int{math.MinInt, -n - 1, -n, -1, n, n + 1, 2 * n, 63, 64, 65, 1 << 32, math.MaxInt} {
			refused(t, p, w, api.ErrArg)
			expect(t, p, form)
		}
	}
	p := made(t, 64)
	refused(t, p, 64, api.ErrArg)
	refused(t, p, -1, api.ErrArg)
}

// P18.2: the example of the chapter.
func TestExample(t *testing.T) {
	p := made(t, 2)
	push(t, p, 0, lettered('a'))
	push(t, p, 0, lettered('b'))
	expectTake(t, p, 1, 5, 'a', 0)
	expectTake(t, p, 0, 0, 'b', 0)
	if e := p.Done(0); e != api.OK {
		t.Fatal(int(e))
	}
	expectTake(t, p, 0, 0, 'a', 1)
	if j, e := p.Held(1); !same(j, api.Job{}) || e != api.ErrNone {
		t.Fatal(j, int(e))
	}
	expect(t, p, "a/ /")
}

// P18.1: what is pushed is the lowest job of that worker, of no other one, and none that it holds.
func TestPush(t *testing.T) {
	for _, c := range []struct {
		form   string
		w      int
		letter rune
		then   string
	}{
		{"/", 0, 'a', "/a"},
		{"/a", 0, 'b', "/ab"},
		{"/a", 0, 'a', "/aa"},
		{"/a", 0, 'A', "/aA"},
		{"a/", 0, 'b', "a/b"},
		{"a/", 0, 'a', "a/a"},
		{"/ /", 0, 'a', "/a /"},
		{"/ /", 1, 'a', "/ /a"},
		{"a/b c/d", 0, 'e', "a/be c/d"},
		{"a/b c/d", 1, 'e', "a/b c/de"},
		{"/ /abc /", 2, 'd', "/ /abc /d"},
	} {
		p := formed(t, c.form)
		push(t, p, c.w, lettered(c.letter))
		expect(t, p, c.then)
	}
}

// P18.1: a worker's deque takes 128 jobs, whatever it holds, and whatever others have.
func TestPushFull(t *testing.T) {
	for _, held := range []string{"", "a"} {
		p := formed(t, held+"/ /b")
		full := held + "/" + strings.Repeat("x", 128)
		for range 128 {
			push(t, p, 0, lettered('x'))
		}
		for range 3 {
			if e := p.Push(0, lettered('y')); e != api.ErrFull {
				t.Fatalf("Push of one more: %d", int(e))
			}
			expect(t, p, full+" /b")
		}
		push(t, p, 1, lettered('y'))
		expect(t, p, full+" /by")
	}
}

// P18.1, P18.2: all 64 workers with 128 jobs each, and one that each holds.
func TestPushAllFull(t *testing.T) {
	p := made(t, 64)
	for w := range 64 {
		for range 129 {
			push(t, p, w, lettered('x'))
			p.Take(w, 0)
		}
		if e := p.Push(w, lettered('y')); e != api.ErrFull {
			t.Fatalf("Push of one more to %d: %d", w, int(e))
		}
	}
	if n := p.Len(); n != 64*129 {
		t.Errorf("Len: %d", n)
	}
	if n := p.Drop(keyOf('x')); n != 64*128 || p.Len() != 64 {
		t.Errorf("Drop: %d; Len: %d", n, p.Len())
	}
}

// P18.2: each way of taking a job ahead of the next one.
func TestTake(t *testing.T) {
	for _, c := range []struct {
		form    string
		w, pick int
		letter  rune
		from    int
		then    string
	}{
		// It holds one: that is told, and stays, whatever there is beside it.
		{"a/", 0, 0, 'a', 0, "a/"},
		{"a/bc", 0, 0, 'a', 0, "a/bc"},
		{"a/ /b", 0, 1, 'a', 0, "a/ /b"},
		{"a/ b/", 1, 0, 'b', 1, "a/ b/"},
		{"a/b c/d /e", 1, 2, 'c', 1, "a/b c/d /e"},
		// It has some in its deque: the lowest one.
		{"/a", 0, 0, 'a', 0, "a/"},
		{"/abc", 0, 0, 'c', 0, "c/ab"},
		{"/ab /cd", 0, 1, 'b', 0, "b/a /cd"},
		{"/ab /cd", 1, 0, 'd', 1, "/ab d/c"},
		{"a/b /cd e/f", 1, 0, 'd', 1, "a/b d/c e/f"},
		{"a/ /b", 1, 0, 'b', 1, "a/ b/"},
		// One other worker's deque has some: the highest one, even if somebody stands ahead who holds one.
		{"/ /a", 0, 0, 'a', 1, "a/ /"},
		{"/ /abc", 0, 0, 'a', 1, "a/ /bc"},
		{"/abc /", 1, 1, 'a', 0, "/bc a/"},
		{"/ a/ b/c", 0, 1, 'c', 2, "c/ a/ b/"},
		{"/ a/ b/cd", 0, 1, 'c', 2, "c/ a/ b/d"},
		{"/ a/b c/", 0, 2, 'b', 1, "b/ a/ c/"},
		// Several have: the first one from the pick on, in a circle.
		{"/ /ab /cd", 0, 0, 'a', 1, "a/ /b /cd"},
		{"/ /ab /cd", 0, 1, 'a', 1, "a/ /b /cd"},
		{"/ /ab /cd", 0, 2, 'c', 2, "c/ /ab /d"},
		{"/ /ab /cd", 0, 3, 'a', 1, "a/ /b /cd"},
		{"/ /ab /cd", 0, 5, 'c', 2, "c/ /ab /d"},
		{"/ /ab /cd", 0, -1, 'c', 2, "c/ /ab /d"},
		{"/ /ab /cd", 0, -2, 'a', 1, "a/ /b /cd"},
		{"/ /ab /cd", 0, -3, 'a', 1, "a/ /b /cd"},
		{"/ /ab /cd", 0, -4, 'c', 2, "c/ /ab /d"},
		{"/ab / /cd", 1, 1, 'c', 2, "/ab c/ /d"},
		{"/ab / /cd", 1, 0, 'a', 0, "/b a/ /cd"},
		{"/ab /cd /", 2, 2, 'a', 0, "/b /cd a/"},
		{"/ab /cd /", 2, 1, 'c', 1, "/ab /d c/"},
		{"x/ab y/cd / z/ef", 2, 2, 'e', 3, "x/ab y/cd e/ z/f"},
		{"x/ab y/cd / z/", 2, 2, 'a', 0, "x/b y/cd a/ z/"},
		// No deque has one: the job that the first other one holds, from the pick on, who holds it no more.
		{"/ a/", 0, 0, 'a', 1, "a/ /"},
		{"a/ /", 1, 1, 'a', 0, "/ a/"},
		{"/ a/ b/", 0, 0, 'a', 1, "a/ / b/"},
		{"/ a/ b/", 0, 1, 'a', 1, "a/ / b/"},
		{"/ a/ b/", 0, 2, 'b', 2, "b/ a/ /"},
		{"/ a/ b/", 0, 4, 'a', 1, "a/ / b/"},
		{"/ a/ b/", 0, -1, 'b', 2, "b/ a/ /"},
		{"a/ / b/", 1, 1, 'b', 2, "a/ b/ /"},
		{"a/ / b/", 1, 0, 'a', 0, "/ a/ b/"},
		{"a/ b/ /", 2, 2, 'a', 0, "/ b/ a/"},
		{"a/ b/ /", 2, 1, 'b', 1, "a/ / b/"},
		{"/ / / a/", 1, 1, 'a', 3, "/ a/ / /"},
		// There is no job at all.
		{"/", 0, 0, '!', 0, "/"},
		{"/", 0, 7, '!', 0, "/"},
		{"/ / /", 1, 2, '!', 0, "/ / /"},
		{"/ / /", 2, -5, '!', 0, "/ / /"},
	} {
		p := formed(t, c.form)
		t.Log(c.form)
		expectTake(t, p, c.w, c.pick, c.letter, c.from)
		expect(t, p, c.then)
		if c.letter == '!' {
			continue
		}
		// From then on it holds that job, whatever is picked.
		for _, pick := range []int{c.pick, c.pick + 1, -3, 1000} {
			expectTake(t, p, c.w, pick, c.letter, c.w)
			expect(t, p, c.then)
		}
	}
}

// circles are, of some picks and counts of workers, the first worker in the circle.
var circles = []struct{ n, pick, first int }{
	{1, 0, 0}, {1, 1, 0}, {1, -1, 0}, {1, math.MaxInt, 0}, {1, math.MinInt, 0},
	{2, 0, 0}, {2, 1, 1}, {2, 2, 0}, {2, -1, 1}, {2, -2, 0}, {2, math.MaxInt, 1}, {2, math.MinInt, 0},
	{3, 0, 0}, {3, 1, 1}, {3, 2, 2}, {3, 3, 0}, {3, 4, 1}, {3, 299, 2},
	{3, -1, 2}, {3, -2, 1}, {3, -3, 0}, {3, -4, 2}, {3, -299, 1},
	{3, math.MaxInt, 1}, {3, math.MaxInt - 1, 0}, {3, math.MinInt, 1}, {3, math.MinInt + 1, 2},
	{7, math.MaxInt, 0}, {7, math.MaxInt - 1, 6}, {7, math.MinInt, 6}, {7, math.MinInt + 1, 0}, {7, -6, 1}, {7, 1 << 32, 4}, {7, -1 << 32, 3},
	{10, math.MaxInt, 7}, {10, math.MinInt, 2}, {10, 1 << 31, 8}, {10, -1 << 31, 2},
	{63, math.MaxInt, 7}, {63, math.MinInt, 55}, {63, 62, 62}, {63, 63, 0}, {63, -1, 62},
	{64, 0, 0}, {64, 63, 63}, {64, 64, 0}, {64, 65, 1}, {64, -1, 63}, {64, -63, 1}, {64, -64, 0}, {64, -65, 63}, {64, math.MaxInt, 63}, {64, math.MinInt, 0}, {64, math.MinInt + 1, 1},
}

// P18.2: from any pick on each worker comes once, in the circle's order, when its deque is asked, and when it is asked for what it holds.
func TestCircle(t *testing.T) {
	for _, c := range circles {
		for _, held := range []bool{false, true} {
			p := made(t, c.n)
			for w := range c.n {
				push(t, p, w, lettered(rune('a'+w)))
				if held {
					p.Take(w, 0)
				}
			}
			// The asker is a worker of which all is gone: the last one in the circle, so the circle begins at each other one.
			asker := (c.first + c.n - 1) % c.n
			p.Take(asker, 0)
			p.Done(asker)
			for i := range c.n - 1 {
				w := (c.first + i) % c.n
				expectTake(t, p, asker, c.pick, rune('a'+w), w)
				p.Done(asker)
			}
			expectTake(t, p, asker, c.pick, '!', 0)
		}
	}
}

// P18.2: a job wanders from one who holds it to the next, and none has it twice.
func TestWander(t *testing.T) {
	p := formed(t, "a/ / /")
	for i, c := range []struct {
		w, pick int
		from    int
		then    string
	}{
		{1, 0, 0, "/ a/ /"}, {1, 0, 1, "/ a/ /"}, {2, 0, 1, "/ / a/"}, {0, 2, 2, "a/ / /"}, {2, 1, 0, "/ / a/"}, {2, 2, 2, "/ / a/"},
	} {
		t.Log(i)
		expectTake(t, p, c.w, c.pick, 'a', c.from)
		expect(t, p, c.then)
	}
}

// P18.3: Put, Done and Held of workers that hold a job, and of such that hold none.
func TestHeld(t *testing.T) {
	for _, c := range []struct {
		form string
		w    int
		held rune
		put  string
		done string
	}{
		{"/", 0, '!', "/", "/"},
		{"/a", 0, '!', "/a", "/a"},
		{"a/", 0, 'a', "z/", "/"},
		{"a/b", 0, 'a', "z/b", "/b"},
		{"a/aA", 0, 'a', "z/aA", "/aA"},
		{"z/z", 0, 'z', "z/z", "/z"},
		{"a/z", 0, 'a', "z/z", "/z"},
		{"/ a/", 0, '!', "/ a/", "/ a/"},
		{"/ a/", 1, 'a', "/ z/", "/ /"},
		{"/b a/ /c", 2, '!', "/b a/ /c", "/b a/ /c"},
		{"d/b a/ e/c", 1, 'a', "d/b z/ e/c", "d/b / e/c"},
		{"a/ a/ a/", 1, 'a', "a/ z/ a/", "a/ / a/"},
	} {
		want := api.OK
		if c.held == '!' {
			want = api.ErrNone
		}
		p := formed(t, c.form)
		for range 2 {
			j, e := p.Held(c.w)
			if e != want || e == api.OK && !same(j, lettered(c.held)) || e != api.OK && !same(j, api.Job{}) {
				t.Errorf("%s: Held(%d): %v, %d", c.form, c.w, j, int(e))
			}
			expect(t, p, c.form)
		}
		for range 2 {
			if e := p.Put(c.w, lettered('z')); e != want {
				t.Errorf("%s: Put(%d): %d", c.form, c.w, int(e))
			}
			expect(t, p, c.put)
		}
		if e := p.Done(c.w); e != want {
			t.Errorf("%s: Done(%d): %d", c.form, c.w, int(e))
		}
		expect(t, p, c.done)
		if e := p.Done(c.w); e != api.ErrNone || p.Put(c.w, lettered('z')) != api.ErrNone {
			t.Errorf("%s: Done(%d) again: %d", c.form, c.w, int(e))
		}
		expect(t, p, c.done)
	}
}

// P18.2, P18.3: a job that was put is told, and taken, as one that was pushed.
func TestPutIsTaken(t *testing.T) {
	p := formed(t, "a/b /")
	p.Put(0, lettered('c'))
	expectTake(t, p, 0, 1, 'c', 0)
	expectTake(t, p, 1, 0, 'b', 0)
	p.Done(1)
	expectTake(t, p, 1, 1, 'c', 0)
	expect(t, p, "/ c/")
	if e := p.Put(0, lettered('d')); e != api.ErrNone {
		t.Errorf("Put: %d", int(e))
	}
	expect(t, p, "/ c/")
}

// P18.1 to P18.4: jobs are told as they were handed in, whatever stands in them.
func TestAnyJob(t *testing.T) {
	long := make([]int, 5000)
	for i := range long {
		long[i] = i * i
	}
	for _, stamp := range [][]int{nil, {}, {0}, {math.MinInt, math.MaxInt}, make([]int, 64), make([]int, 65), long} {
		for _, number := range []int{math.MinInt, -1, 0, 63, 64, math.MaxInt} {
			j := api.Job{Key: api.Key{Item: number, Undo: number > 0, Try: -number}, Begun: number < 0, Token: number, Stamp: stamp}
			p := made(t, 3)
			push(t, p, 1, j)
			list := p.List(1)
			taken, from, e := p.Take(2, 0)
			held, _ := p.Held(2)
			if len(list) != 1 || !same(list[0], j) || !same(taken, j) || from != 1 || e != api.OK || !same(held, j) {
				t.Fatalf("%v: %v, %v, %v", j, list, taken, held)
			}
			p.Put(2, api.Job{})
			if e := p.Put(2, j); e != api.OK {
				t.Fatalf("%v: Put: %d", j, int(e))
			}
			taken, from, e = p.Take(0, 0)
			if !same(taken, j) || from != 2 || e != api.OK || p.Len() != 1 {
				t.Fatalf("%v: %v, %d, %d", j, taken, from, int(e))
			}
		}
	}
}

// P18.4: of each worker's deque its jobs, and none that anybody holds.
func TestList(t *testing.T) {
	for _, form := range []string{"/", "a/", "/a", "/ab", "a/bcd", "/ /", "/abc /", "/ /abc", "a/b c/ /d", "a/a a/a", "/aAaA b/bB"} {
		p := formed(t, form)
		for w, part := range strings.Split(form, " ") {
			_, jobs, _ := strings.Cut(part, "/")
			var want []api.Job
			for _, letter := range jobs {
				want = append(want, lettered(letter))
			}
			if l := p.List(w); !slices.EqualFunc(l, want, same) {
				t.Errorf("%s: List(%d): %v", form, w, l)
			}
		}
		expect(t, p, form)
	}
}

// P18.4: keys that no job has, that several of several deques have, that held ones have.
func TestDrop(t *testing.T) {
	for _, c := range []struct {
		form   string
		letter rune
		n      int
		then   string
	}{
		{"/", 'x', 0, "/"},
		{"/a", 'x', 0, "/a"},
		{"x/", 'x', 0, "x/"},
		{"X/", 'x', 0, "X/"},
		{"/x", 'x', 1, "/"},
		{"/X", 'x', 1, "/"},
		{"/xX", 'x', 2, "/"},
		{"x/xXx", 'x', 3, "x/"},
		{"/axbXc", 'x', 2, "/abc"},
		{"/ /x", 'x', 1, "/ /"},
		{"/x /a", 'x', 1, "/ /a"},
		{"/x /X /x", 'x', 3, "/ / /"},
		{"x/ /x x/", 'X', 1, "x/ / x/"},
		{"a/xb x/cX X/ /xdXex", 'x', 5, "a/b x/c X/ /de"},
		{"a/ab x/ /ba", 'y', 0, "a/ab x/ /ba"},
	} {
		p := formed(t, c.form)
		if n := p.Drop(keyOf(c.letter)); n != c.n {
			t.Errorf("%s: Drop: %d", c.form, n)
		}
		expect(t, p, c.then)
		if n := p.Drop(keyOf(c.letter)); n != 0 {
			t.Errorf("%s: Drop again: %d", c.form, n)
		}
		expect(t, p, c.then)
	}
}

// P18.4: all three parts of a key count, and nothing else of a job.
func TestDropByKey(t *testing.T) {
	var keys []api.Key
	for _, item := range []int{-1, 0, 1, 1 << 32} {
		for _, try := range []int{-1, 0, 1, 1 << 32} {
			keys = append(keys, api.Key{Item: item, Try: try}, api.Key{Item: item, Undo: true, Try: try})
		}
	}
	for at, k := range keys {
		p := made(t, 5)
		for i, other := range keys {
			push(t, p, i%5, api.Job{Key: other, Begun: i%2 == 0, Token: i, Stamp: []int{i}})
		}
		push(t, p, at%5, api.Job{Key: k, Begun: true, Token: -5})
		if n := p.Drop(k); n != 2 || p.Len() != len(keys)-1 {
			t.Errorf("%v: %d, %d left", k, n, p.Len())
		}
		for w := range 5 {
			if slices.ContainsFunc(p.List(w), func(j api.Job) bool { return j.Key == k }) {
				t.Errorf("%v: %v", k, p.List(w))
			}
		}
	}
}

// P18.4: Len behind each call.
func TestLen(t *testing.T) {
	p := made(t, 3)
	for i, c := range []struct {
		do  func()
		len int
	}{
		{func() {}, 0},
		{func() { p.Take(0, 0) }, 0},
		{func() { p.Push(0, lettered('a')) }, 1},
		{func() { p.Push(0, lettered('a')) }, 2},
		{func() { p.Push(2, lettered('b')) }, 3},
		{func() { p.Push(3, lettered('b')) }, 3},
		{func() { p.Take(0, 0) }, 3},
		{func() { p.Take(1, 0) }, 3},
		{func() { p.Take(1, 0) }, 3},
		{func() { p.Put(1, lettered('c')) }, 3},
		{func() { p.Put(2, lettered('c')) }, 3},
		{func() { p.List(0) }, 3},
		{func() { p.Held(0) }, 3},
		{func() { p.Drop(keyOf('a')) }, 3},
		{func() { p.Drop(keyOf('b')) }, 2},
		{func() { p.Done(2) }, 2},
		{func() { p.Take(2, 0) }, 2},
		{func() { p.Done(0) }, 2},
		{func() { p.Done(2) }, 1},
		{func() { p.Done(1) }, 0},
		{func() { p.Done(1) }, 0},
	} {
		c.do()
		if n := p.Len(); n != c.len {
			t.Errorf("behind call %d: %d; want %d", i, n, c.len)
		}
	}
}

// P18.1, P18.3: what is pushed or put is not kept, and not changed.
func TestNothingHandedInIsKept(t *testing.T) {
	behind := []int{1, 2, 5, 6}
	j := api.Job{Key: api.Key{Item: 1}, Token: 1, Stamp: behind[:2]}
	want := api.Job{Key: api.Key{Item: 1}, Token: 1, Stamp: []int{1, 2}}
	p := made(t, 2)
	push(t, p, 0, api.Job{})
	p.Take(0, 0)
	push(t, p, 0, j)
	push(t, p, 1, j)
	p.Take(1, 0)
	push(t, p, 1, j)
	if e := p.Put(0, j); e != api.OK {
		t.Fatal(int(e))
	}
	j.Stamp[0], j.Stamp[1], j.Token = 9, 8, 7
	for w := range 2 {
		held, _ := p.Held(w)
		if l := p.List(w); !same(held, want) || len(l) != 1 || !same(l[0], want) {
			t.Errorf("%d: %v, %v", w, held, l)
		}
	}
	for w := range 2 {
		turn(p.List(w)...)
		taken, _, _ := p.Take(w, 0)
		turn(taken)
		p.Done(w)
		lowest, _, _ := p.Take(w, 0)
		if !same(lowest, want) {
			t.Errorf("%d: %v", w, lowest)
		}
	}
	if !slices.Equal(behind, []int{9, 8, 5, 6}) {
		t.Errorf("%v", behind)
	}
}

// turn turns all that can be turned of jobs, and writes into what room there is behind them.
func turn(l ...api.Job) {
	for i := range l {
		for k := range l[i].Stamp {
			l[i].Stamp[k] = 77
		}
		_ = append(l[i].Stamp, 77, 77)
		l[i] = api.Job{Token: 77}
	}
	_ = append(l, lettered('?'), lettered('?'))
}

// P18.2 to P18.4: what was told, and is turned, turns no pool, and nothing else that was told.
func TestToldIsTurned(t *testing.T) {
	const form = "a/bcd e/ /f g/hi"
	p := formed(t, form)
	tell := func() []api.Job {
		var l []api.Job
		for w := range 4 {
			l = append(l, p.List(w)...)
			if j, e := p.Held(w); e == api.OK {
				l = append(l, j)
				again, _, _ := p.Take(w, w)
				l = append(l, again)
			}
		}
		return l
	}
	first, second := tell(), tell()
	for i := range first {
		turn(first[i])
		for k, j := range first {
			if k > i && letterOf(j) == "?" {
				t.Fatalf("%d turned %d: %v", i, k, j)
			}
		}
		expect(t, p, form)
	}
	for w := range 4 {
		turn(p.List(w)...)
	}
	expect(t, p, form)
	for i, j := range second {
		if letterOf(j) == "?" {
			t.Fatalf("%d: %v", i, j)
		}
	}
}

// P18.2: a job that is taken, by any way, and is turned, is held as it was.
func TestTakenIsTurned(t *testing.T) {
	for _, c := range []struct{ form, then string }{
		{"a/ /", "a/ /"},
		{"/ab /", "b/a /"},
		{"/ /ab", "a/ /b"},
		{"/ a/", "a/ /"},
	} {
		p := formed(t, c.form)
		j, _, e := p.Take(0, 0)
		if e != api.OK {
			t.Fatalf("%s: %d", c.form, int(e))
		}
		turn(j)
		expect(t, p, c.then)
	}
}

// P18.6: a pool that goes on turns nothing that was told, and pools have nothing of one another.
func TestPoolsGoOn(t *testing.T) {
	r := rand.New(rand.NewSource(5))
	pools := []*Pool{made(t, 4), made(t, 4)}
	ledgers := []*ledger{{n: 4}, {n: 4}}
	var told, want [][]api.Job
	for range 1500 {
		which := r.Intn(2)
		take(t, pools[which], ledgers[which], anyStep(r, 4, 50))
		w := r.Intn(4)
		told, want = append(told, pools[which].List(w)), append(want, ledgers[which].list(w))
		if j, e := pools[which].Held(w); e == api.OK {
			k, _ := ledgers[which].heldBy(w)
			told, want = append(told, []api.Job{j}), append(want, []api.Job{k})
		}
		check(t, pools[1-which], ledgers[1-which])
	}
	for i := range told {
		if !slices.EqualFunc(told[i], want[i], same) {
			t.Fatalf("%d: %v; want %v", i, told[i], want[i])
		}
	}
}

// P18.6: what is there no more is kept no more, either.
func TestNothingIsKept(t *testing.T) {
	p := formed(t, "a/ b/ c/")
	p.Done(0)
	p.Put(1, lettered('d'))
	expectTake(t, p, 0, 2, 'c', 2)
	p.Done(0)
	p.Done(1)
	for w := range p.workers {
		if x := &p.workers[w]; x.held != nil || x.jobs.Len() != 0 {
			t.Errorf("%d: %v, %v", w, x.held, x.jobs.List())
		}
	}
}

// P18.5: while there is a job Take tells one, whoever asks, whatever is picked; and each one in its turn, until none is there.
func TestGoesOn(t *testing.T) {
	r := rand.New(rand.NewSource(4))
	for n := 1; n <= 64; n++ {
		p, left := made(t, n), map[int]bool{}
		for token := range 1 + r.Intn(4*n) {
			w := r.Intn(n)
			push(t, p, w, api.Job{Token: token})
			left[token] = true
			if r.Intn(3) == 0 {
				p.Take(w, 0)
			}
		}
		for len(left) > 0 {
			if p.Len() != len(left) {
				t.Fatalf("%d workers: %d jobs; want %d", n, p.Len(), len(left))
			}
			w := r.Intn(n)
			j, _, e := p.Take(w, anyPick(r))
			if e != api.OK || !left[j.Token] {
				t.Fatalf("%d workers: %v, %d of %v", n, j, int(e), left)
			}
			if r.Intn(2) == 0 {
				p.Done(w)
				delete(left, j.Token)
			}
		}
		for w := range n {
			expectTake(t, p, w, anyPick(r), '!', 0)
		}
	}
}

// tokensOf are the tokens of all jobs of a pool, in deques and held.
func tokensOf(p *Pool, n int) map[int]int {
	tokens := map[int]int{}
	for w := range n {
		for _, j := range p.List(w) {
			tokens[j.Token]++
		}
		if j, e := p.Held(w); e == api.OK {
			tokens[j.Token]++
		}
	}
	return tokens
}

// P18.6: each job of a long course of calls, known by its token, is told by a Done, dropped, or there, once.
func TestEachOnce(t *testing.T) {
	r := rand.New(rand.NewSource(6))
	const n = 5
	p := made(t, n)
	pushed, seen := 0, map[int]int{}
	for range 8000 {
		w := r.Intn(n)
		switch k := r.Intn(100); {
		case k < 50:
			if p.Push(w, api.Job{Key: anyKey(r), Token: pushed}) == api.OK {
				pushed++
			}
		case k < 74:
			p.Take(w, anyPick(r))
		case k < 80:
			if j, e := p.Held(w); e == api.OK {
				p.Put(w, api.Job{Key: anyKey(r), Begun: true, Token: j.Token})
			}
		case k < 98:
			if j, e := p.Held(w); e == api.OK && p.Done(w) == api.OK {
				seen[j.Token]++
			}
		default:
			ahead := tokensOf(p, n)
			lost := p.Drop(anyKey(r))
			behind := tokensOf(p, n)
			for token := range ahead {
				if behind[token] == 0 {
					seen[token]++
					lost--
				}
			}
			if lost != 0 {
				t.Fatalf("Drop: %d more than are gone", lost)
			}
		}
		if there := len(tokensOf(p, n)); p.Len() != there || len(seen)+there != pushed {
			t.Fatalf("%d pushed, %d seen, %d there, Len %d", pushed, len(seen), there, p.Len())
		}
	}
	for token, times := range tokensOf(p, n) {
		seen[token] += times
	}
	for token := range pushed {
		if seen[token] != 1 {
			t.Errorf("job %d: %d times", token, seen[token])
		}
	}
	if len(seen) != pushed || pushed < 3000 {
		t.Errorf("%d jobs seen, %d pushed", len(seen), pushed)
	}
}
