package merge

import (
	"math"
	"math/rand"
	"slices"
	"testing"

	"argosy/api"
)

const (
	least = math.MinInt
	most  = math.MaxInt
)

// The second reckoning: by the chapter's words, count by count, without package stamp.

func expectNext(had, s []int, i int) bool {
	if len(s) != len(had) {
		return false
	}
	for k := range had {
		if k == i && s[k] != had[k]+1 || k != i && s[k] > had[k] {
			return false
		}
	}
	return true
}

// expectMerge gathers all branches that may go on, and takes the least one.
func expectMerge(l [][]api.Event) ([]api.Event, []int) {
	if len(l) == 0 || len(l) > 64 {
		return nil, nil
	}
	var h []api.Event
	had, left := make([]int, len(l)), slices.Clone(l)
	for {
		var may []int
		for i := len(left) - 1; i >= 0; i-- {
			if len(left[i]) > 0 && expectNext(had, left[i][0].Stamp, i) {
				may = append(may, i)
			}
		}
		if len(may) == 0 {
			return h, had
		}
		i := slices.Min(may)
		h, left[i] = append(h, left[i][0]), left[i][1:]
		had[i]++
	}
}

// expectSplit counts anew, ahead of each event, what the branches have had.
func expectSplit(h []api.Event, n int) ([][]api.Event, api.Errno) {
	if n < 1 || n > 64 {
		return nil, api.ErrArg
	}
	l := make([][]api.Event, n)
	for _, e := range h {
		var had, may []int
		for _, log := range l {
			had = append(had, len(log))
		}
		for i := range n {
			if expectNext(had, e.Stamp, i) {
				may = append(may, i)
			}
		}
		if len(may) != 1 {
			return nil, api.ErrArg
		}
		l[may[0]] = append(l[may[0]], e)
	}
	return l, api.OK
}

// expectAhead holds stamps against each other that are made as long by noughts.
func expectAhead(h []api.Event, i, k int) bool {
	if i < 0 || k < 0 || i > len(h)-1 || k > len(h)-1 {
		return false
	}
	a, b := slices.Clone(h[i].Stamp), slices.Clone(h[k].Stamp)
	for len(a) != len(b) {
		if len(a) < len(b) {
			a = append(a, 0)
		} else {
			b = append(b, 0)
		}
	}
	less := false
	for branch := range a {
		if a[branch] > b[branch] {
			return false
		}
		less = less || a[branch] < b[branch]
	}
	return less
}

func sameEvent(a, b api.Event) bool {
	return a.Kind == b.Kind && a.Item == b.Item && a.Try == b.Try && slices.Equal(a.Stamp, b.Stamp)
}

func sameLog(a, b []api.Event) bool { return slices.EqualFunc(a, b, sameEvent) }

func sameLogs(a, b [][]api.Event) bool { return slices.EqualFunc(a, b, sameLog) }

func cloneLog(l []api.Event) []api.Event {
	var clone []api.Event
	for _, e := range l {
		e.Stamp = slices.Clone(e.Stamp)
		clone = append(clone, e)
	}
	return clone
}

func cloneLogs(l [][]api.Event) [][]api.Event {
	var clone [][]api.Event
	for _, log := range l {
		clone = append(clone, cloneLog(log))
	}
	return clone
}

// checkMerge holds what is merged against the second reckoning, and against P12.4 to P12.6.
func checkMerge(t *testing.T, l [][]api.Event) ([]api.Event, []int) {
	t.Helper()
	was := cloneLogs(l)
	h, taken := Merge(l)
	want, wantTaken := expectMerge(l)
	if !sameLog(h, want) || !slices.Equal(taken, wantTaken) {
		t.Fatalf("Merge(%d): %d, %d; want %d, %d", l, h, taken, want, wantTaken)
	}
	if !sameLogs(l, was) {
		t.Fatalf("Merge turned %d into %d", was, l)
	}
	if len(l) < 1 || len(l) > 64 {
		return h, taken
	}
	if e := Check(h, len(l)); e != api.OK {
		t.Fatalf("Merge(%d): %d is no history", l, h)
	}
	parts := checkSplit(t, h, len(l), api.OK)
	for i, log := range l {
		if !sameLog(parts[i], log[:taken[i]]) {
			t.Fatalf("Merge(%d): %d of branch %d", l, parts[i], i)
		}
	}
	return h, taken
}

// checkSplit holds what is checked and split against the second reckoning, and, of a history, against P12.5 and P12.6.
func checkSplit(t *testing.T, h []api.Event, n int, want api.Errno) [][]api.Event {
	t.Helper()
	was := cloneLog(h)
	checked := Check(h, n)
	parts, e := Split(h, n)
	expected, reckoned := expectSplit(h, n)
	if reckoned != want {
		t.Fatalf("%d of %d branches: the test wants %d, the second reckoning %d", h, n, want, reckoned)
	}
	if checked != want || e != want || !sameLogs(parts, expected) {
		t.Fatalf("Check, Split(%d, %d): %d, %d, %d; want %d, %d", h, n, checked, parts, e, expected, want)
	}
	if !sameLog(h, was) {
		t.Fatalf("Check or Split turned %d into %d", was, h)
	}
	if want != api.OK {
		return parts
	}
	inOrder(t, h)
	whole, taken := Merge(parts)
	canon, _ := expectMerge(expected)
	if len(whole) != len(h) || !sameLog(whole, canon) {
		t.Fatalf("%d of %d branches, split and merged: %d", h, n, whole)
	}
	for i := range parts {
		if taken[i] != len(parts[i]) {
			t.Fatalf("%d of %d branches, split and merged: %d are taken", h, n, taken)
		}
	}
	return parts
}

// inOrder looks that no event stands behind one that it is Ahead of; of a long list not each pair is asked.
func inOrder(t *testing.T, h []api.Event) {
	t.Helper()
	step := 1 + len(h)/40
	for k := range h {
		for i := k % step; i <= k; i += step {
			if Ahead(h, k, i) {
				t.Fatalf("%d: the event at %d stands behind that at %d", h, k, i)
			}
		}
	}
}

func checkAhead(t *testing.T, h []api.Event, i, k int) {
	t.Helper()
	if got, want := Ahead(h, i, k), expectAhead(h, i, k); got != want {
		t.Fatalf("Ahead(%d, %d, %d): %t", h, i, k, got)
	}
}

func ev(stamp ...int) api.Event {
	return api.Event{Kind: api.EvOk, Item: 3, Stamp: stamp}
}

// log is events with these stamps, no two of them alike.
func log(stamps ...[]int) []api.Event {
	var l []api.Event
	for k, s := range stamps {
		l = append(l, api.Event{Kind: api.EventKind(1 + k%6), Item: 1 + k%63, Try: k, Stamp: s})
	}
	return l
}

// stamps is a history's, or a log's.
func stamps(l []api.Event) [][]int {
	var all [][]int
	for _, e := range l {
		all = append(all, e.Stamp)
	}
	return all
}

// counts is n counts, all 0 but that of one branch.
func counts(n, i, count int) []int {
	l := make([]int, n)
	l[i] = count
	return l
}

// some are all lists of so many of these.
func some[E any](count int, of []E) [][]E {
	all := [][]E{nil}
	for range count {
		var longer [][]E
		for _, l := range all {
			for _, e := range of {
				longer = append(longer, append(slices.Clone(l), e))
			}
		}
		all = longer
	}
	return all
}

// upTo are all lists of from none to so many of these.
func upTo[E any](count int, of []E) [][]E {
	var all [][]E
	for n := range count + 1 {
		all = append(all, some(n, of)...)
	}
	return all
}

// orders are all orders of a list.
func orders(l []api.Event) [][]api.Event {
	if len(l) == 0 {
		return [][]api.Event{nil}
	}
	var all [][]api.Event
	for i := range l {
		for _, rest := range orders(slices.Concat(l[:i], l[i+1:])) {
			all = append(all, append([]api.Event{l[i]}, rest...))
		}
	}
	return all
}

// anyHistory is what n branches do that hear of one another: in the order in which it happens.
func anyHistory(r *rand.Rand, n, count int) []api.Event {
	var h []api.Event
	clocks := make([][]int, n)
	for i := range clocks {
		clocks[i] = make([]int, n)
	}
	for k := range count {
		i := r.Intn(n)
		for range r.Intn(3) {
			for branch, c := range clocks[r.Intn(n)] {
				clocks[i][branch] = max(clocks[i][branch], c)
			}
		}
		clocks[i][i]++
		h = append(h, api.Event{Kind: api.EventKind(r.Intn(9) - 1), Item: k, Try: r.Intn(5), Stamp: slices.Clone(clocks[i])})
	}
	return h
}

// anyOrder puts events that are next to each other, and neither of which has heard of the other, the other way round.
func anyOrder(r *rand.Rand, h []api.Event) []api.Event {
	l := slices.Clone(h)
	for range 5 * len(l) {
		k := r.Intn(len(l))
		if k > 0 && !expectAhead(l, k-1, k) {
			l[k-1], l[k] = l[k], l[k-1]
		}
	}
	return l
}

// anyTurn leaves out, doubles, puts elsewhere or turns something of a list.
func anyTurn(r *rand.Rand, l []api.Event) []api.Event {
	l = cloneLog(l)
	if len(l) == 0 {
		return l
	}
	i, k := r.Intn(len(l)), r.Intn(len(l))
	s := l[i].Stamp
	switch r.Intn(8) {
	case 0:
		return slices.Delete(l, i, i+1)
	case 1:
		return cloneLog(slices.Insert(l, k, l[i]))
	case 2:
		l[i], l[k] = l[k], l[i]
	case 3:
		l[i].Stamp = s[:r.Intn(len(s)+1)]
	case 4:
		l[i].Stamp = append(s, r.Intn(2))
	case 5:
		return l[:i]
	default:
		if len(s) > 0 {
			s[r.Intn(len(s))] += []int{-1, 1, 1, -1000, 1000}[r.Intn(5)]
		}
	}
	return l
}
