package task

import (
	"math/rand"
	"slices"
	"testing"

	"argosy/api"
	"argosy/fact"
	"argosy/state"
)

// mark tells what facts stand for in a set of them.
func mark(l []api.Fact) string {
	var s []byte
	for _, f := range l {
		s = append(s, byte(f.Run), byte(f.Tries), byte(f.Slips))
		if f.Undone {
			s = append(s, 1)
		}
		s = append(s, ',')
	}
	return string(s)
}

// turn is a key that begins, or ends, well or not.
type turn struct {
	key     api.Key
	ends    bool
	endedOk bool
}

// turns tells all that may happen next.
func turns(may, open []api.Key) []turn {
	var l []turn
	for _, k := range may {
		l = append(l, turn{key: k})
	}
	for _, k := range open {
		l = append(l, turn{key: k, ends: true, endedOk: true})
		if !k.Undo || k.Try < api.MaxTries {
			l = append(l, turn{key: k, ends: true})
		}
	}
	return l
}

// take tells the facts behind a turn.
func (u turn) take(t *testing.T, p api.Plan, l []api.Fact) []api.Fact {
	t.Helper()
	was := slices.Clone(l)
	then, e := Begin(p, l, u.key)
	want := begun(l, u.key)
	if u.ends {
		then, e = End(p, l, u.key, u.endedOk)
		want = ended(l, u.key, u.endedOk)
	}
	if e != api.OK || !slices.Equal(then, want) || fact.Check(p, then) != api.OK {
		t.Fatalf("%v, %v: %v, %d; want %v", l, u, then, int(e), want)
	}
	if !slices.Equal(l, was) {
		t.Fatalf("%v: turned %v into %v", u, was, l)
	}
	return then
}

// holdOn holds P15.4, P15.5 and P15.6 of facts that Begin and End led to, and tells the verdict and what may happen next.
func holdOn(t *testing.T, p api.Plan, l []api.Fact) (api.Status, []turn) {
	t.Helper()
	may, open, v := hold(t, p, l), fact.Open(p, l), state.Verdict(p, l)
	all := tree(t, p, l)
	if v != all[0].verdict() {
		t.Fatalf("%v: verdict %d", l, int(v))
	}
	switch v {
	case api.Running:
		if len(may)+len(open) == 0 {
			t.Fatalf("%v: it does not go on", l)
		}
	case api.Done:
		if len(may) != 0 {
			t.Fatalf("%v: done, and %v may begin", l, may)
		}
	case api.Failed:
		if len(may)+len(open) != 0 || !isAll(all, (*node).clean) {
			t.Fatalf("%v: failed, and %v may begin, %v is open", l, may, open)
		}
	default:
		t.Fatalf("%v: verdict %d", l, int(v))
	}
	holdApart(t, all, may)
	return v, turns(may, open)
}

// holdApart holds that nothing may be undone of that on which leans what may begin, or a saga around it.
func holdApart(t *testing.T, all []*node, may []api.Key) {
	t.Helper()
	for _, k := range may {
		for around := all[k.Item]; !k.Undo && around != nil; around = around.up {
			for _, on := range around.leans {
				if slices.ContainsFunc(within(on), (*node).mayBeUndone) {
					t.Fatalf("%v may begin, and leans on %d, of which something may be undone", k, on.number)
				}
			}
		}
	}
}

// within are a node and all that stand in it.
func within(n *node) []*node {
	l := []*node{n}
	for _, k := range n.kids() {
		l = append(l, within(k)...)
	}
	return l
}

// P15.4 to P15.6: all facts to which Begin and End lead, by any choices, from no step that began to the end.
func TestAllRuns(t *testing.T) {
	for _, c := range []struct {
		form         string
		done, failed bool
	}{
		{"a.", true, true},
		{"a. b.", true, true},
		{"a. b.<a", true, true},
		{"a. b.<a c.<a", true, true},
		{"a. b.<a | c.", true, true},
		{"a. | b. | c. | d.", true, true},
		{"Vs ( a. ) b.<s", true, true},
		{"Ls ( a. ) b.<s", true, true},
		// What is not vital at all can't fail.
		{"Ls ( a. )", true, false},
		{"Ls ( a. b. | c. )", true, false},
		{"a. Ls<a ( c. | d. ) z.<s", true, true},
		{"a. Vs<a ( c. | d. ) z.<s", true, true},
		{"Ls ( Vr ( a. ) b.<r ) c.<s", true, true},
		{"Vs ( Lr ( a. ) b.<r | c. )", true, true},
		{"Vs ( a. ) Lr ( b. )", true, true},
		{"a. b. c.", true, true},
		{"a. b.<a c.<b d.<a", true, true},
		{"Vs ( a. ) b.<s Lr<s ( c. ) | d.", true, true},
		{"Vs ( Lr ( a. | b. ) c.<r ) d.<s", true, true},
	} {
		p, _ := formed(t, c.form)
		ends := map[api.Status]int{}
		seen := map[string]int{mark(fact.None(p)): 1}
		for work := [][]api.Fact{fact.None(p)}; len(work) > 0; {
			l := work[len(work)-1]
			work = work[:len(work)-1]
			v, next := holdOn(t, p, l)
			ends[v]++
			if v != api.Running && len(next) != 0 {
				t.Fatalf("%s: %v: verdict %d, and %v", c.form, l, int(v), next)
			}
			for _, u := range next {
				then := u.take(t, p, l)
				if name := mark(then); seen[name] == 0 {
					seen[name] = 1
					work = append(work, then)
				}
			}
		}
		if (ends[api.Done] > 0) != c.done || (ends[api.Failed] > 0) != c.failed {
			t.Errorf("%s: %v", c.form, ends)
		}
	}
}

// run lets a saga go to its end, by any choices: of so many keys that end one goes wrong.
func run(t *testing.T, r *rand.Rand, p api.Plan, wrongs int) api.Status {
	t.Helper()
	l := fact.None(p)
	for {
		v, next := holdOn(t, p, l)
		if v != api.Running {
			return v
		}
		u := next[r.Intn(len(next))]
		if u.ends && r.Intn(wrongs) > 0 {
			u.endedOk = true
		}
		then := u.take(t, p, l)
		holdNext(t, p, l, then)
		l = then
	}
}

// P15.4 to P15.6: runs of some plans, to their ends, Done and Failed.
func TestSomeRuns(t *testing.T) {
	r := rand.New(rand.NewSource(4))
	ends := map[api.Status]int{}
	for range 40 {
		p := anyPlan(t, r, 1+r.Intn(25))
		for _, wrongs := range []int{1, 2, 4, 1000} {
			ends[run(t, r, p, wrongs)]++
		}
	}
	for range 5 {
		ends[run(t, r, anyPlan(t, r, 63), 6)]++
	}
	if ends[api.Done] < 20 || ends[api.Failed] < 20 || ends[api.Done]+ends[api.Failed] != 165 {
		t.Error(ends)
	}
}

// spoil writes over all the room of a list.
func spoil[E any](l []E, with E) {
	l = l[:cap(l)]
	for i := range l {
		l[i] = with
	}
}

// What is handed in stays as it was, what stands behind its end, too.
func TestArgumentsStay(t *testing.T) {
	p, l := formed(t, "a. b> Ls ( c- d+ ea ) z.<s")
	behind := api.Fact{Run: 9, Tries: 9, Slips: 9, Undone: true}
	room := append(slices.Clone(l), behind, behind)
	kept := slices.Clone(room)
	items := append(slices.Clone(p.Items), api.Item{Name: "behind", In: 7, After: []int{9}})
	keptItems := slices.Clone(items)
	after := slices.Clone(items[7].After)
	q, m := api.Plan{Items: items[:len(l)]}, room[:len(l)]
	hold(t, q, m)
	holdKeys(t, q, m)
	holdNext(t, q, m, m)
	refuse(t, q, room)
	refuse(t, api.Plan{Items: items}, room[:len(items)])
	if !slices.Equal(room, kept) || !slices.EqualFunc(items, keptItems, sameItem) || !slices.Equal(items[7].After, after) {
		t.Error(room, items)
	}
}

func sameItem(a, b api.Item) bool {
	return a.Name == b.Name && a.Undo == b.Undo && a.Sub == b.Sub && a.Vital == b.Vital && a.Alts == b.Alts && a.In == b.In && a.Alt == b.Alt && slices.Equal(a.After, b.After)
}

// What is told is new memory: facts that were handed in, and another answer, stay when it is written over.
func TestAnswersAreNew(t *testing.T) {
	p, l := formed(t, "a. b> Ls ( c- d+ ea ) z.<s")
	was := slices.Clone(l)
	first, next := May(p, l), Next(p, fill(p, ">>...."), l)
	wantFirst, wantNext := slices.Clone(first), slices.Clone(next)
	wrong, odd := api.Fact{Run: 9, Tries: 9}, api.Key{Item: 99, Try: 9}
	for range 3 {
		began, _ := Begin(p, l, api.Key{Item: 1})
		ended, _ := End(p, l, api.Key{Item: 2}, true)
		if len(began) != len(l) || len(ended) != len(l) {
			t.Fatal(began, ended)
		}
		spoil(began, wrong)
		if slices.Contains(ended, wrong) {
			t.Fatal(ended)
		}
		spoil(ended, wrong)
		spoil(May(p, l), odd)
		spoil(Next(p, fill(p, ">>...."), l), odd)
		if !slices.Equal(l, was) || !slices.Equal(first, wantFirst) || !slices.Equal(next, wantNext) {
			t.Fatal(l, first, next)
		}
	}
	if text(p, first) != "a d~0" || text(p, next) != "a d~0" {
		t.Error(text(p, first), text(p, next))
	}
}
