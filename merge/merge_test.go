package merge

import (
	"math/rand"
	"slices"
	"testing"

	"argosy/api"
)

// P12.1: the order, and how many of each branch.
func TestMerge(t *testing.T) {
	for name, c := range map[string]struct {
		l     [][]api.Event
		want  [][]int
		taken []int
	}{
		"no branches":                 {nil, nil, nil},
		"one without events":          {[][]api.Event{nil}, nil, []int{0}},
		"three without events":        {[][]api.Event{nil, {}, nil}, nil, []int{0, 0, 0}},
		"one":                         {[][]api.Event{log([]int{1}, []int{2}, []int{3})}, [][]int{{1}, {2}, {3}}, []int{3}},
		"one that begins with 0":      {[][]api.Event{log([]int{0}, []int{1})}, nil, []int{0}},
		"one that begins with 2":      {[][]api.Event{log([]int{2}, []int{1})}, nil, []int{0}},
		"one that leaves out a count": {[][]api.Event{log([]int{1}, []int{3}, []int{2})}, [][]int{{1}}, []int{1}},
		"one that counts twice":       {[][]api.Event{log([]int{1}, []int{1}, []int{2})}, [][]int{{1}}, []int{1}},
		"the least one first":         {[][]api.Event{log([]int{1, 0}, []int{2, 0}), log([]int{0, 1}, []int{0, 2})}, [][]int{{1, 0}, {2, 0}, {0, 1}, {0, 2}}, []int{2, 2}},
		"an empty one ahead":          {[][]api.Event{nil, log([]int{0, 1}, []int{0, 2})}, [][]int{{0, 1}, {0, 2}}, []int{0, 2}},
		"an empty one behind":         {[][]api.Event{log([]int{1, 0}, []int{2, 0}), nil}, [][]int{{1, 0}, {2, 0}}, []int{2, 0}},
		"an empty one between":        {[][]api.Event{log([]int{1, 0, 0}), nil, log([]int{1, 0, 1})}, [][]int{{1, 0, 0}, {1, 0, 1}}, []int{1, 0, 1}},
		"waits for a later branch":    {[][]api.Event{log([]int{1, 1}), log([]int{0, 1})}, [][]int{{0, 1}, {1, 1}}, []int{1, 1}},
		"waits for an earlier branch": {[][]api.Event{log([]int{1, 0}), log([]int{1, 1})}, [][]int{{1, 0}, {1, 1}}, []int{1, 1}},
		"back to the least one":       {[][]api.Event{log([]int{1, 0}, []int{2, 1}, []int{3, 2}), log([]int{0, 1}, []int{0, 2}, []int{0, 3})}, [][]int{{1, 0}, {0, 1}, {2, 1}, {0, 2}, {3, 2}, {0, 3}}, []int{3, 3}},
		"waits for the third":         {[][]api.Event{log([]int{1, 0, 1}), log([]int{0, 1, 0}, []int{1, 2, 1}), log([]int{0, 0, 1})}, [][]int{{0, 1, 0}, {0, 0, 1}, {1, 0, 1}, {1, 2, 1}}, []int{1, 2, 1}},
		"waits for itself":            {[][]api.Event{log([]int{2, 0}, []int{1, 0}), log([]int{0, 1})}, [][]int{{0, 1}}, []int{0, 1}},
		"waits for what never comes":  {[][]api.Event{log([]int{1, 0}, []int{2, 3}, []int{3, 0}), log([]int{0, 1}, []int{0, 2})}, [][]int{{1, 0}, {0, 1}, {0, 2}}, []int{1, 2}},
		"wait for each other":         {[][]api.Event{log([]int{1, 1}), log([]int{1, 1})}, nil, []int{0, 0}},
		"wait for each other behind":  {[][]api.Event{log([]int{1, 0}, []int{2, 2}), log([]int{0, 1}, []int{2, 2})}, [][]int{{1, 0}, {0, 1}}, []int{1, 1}},
		"three wait in a circle":      {[][]api.Event{log([]int{1, 1, 0}), log([]int{0, 1, 1}), log([]int{1, 0, 1})}, nil, []int{0, 0, 0}},
		"two have waited for one":     {[][]api.Event{log([]int{1, 0, 1}), log([]int{0, 1, 1}), log([]int{0, 0, 1})}, [][]int{{0, 0, 1}, {1, 0, 1}, {0, 1, 1}}, []int{1, 1, 1}},
		"another branch's event":      {[][]api.Event{log([]int{0, 1}), log([]int{1, 0})}, nil, []int{0, 0}},
		"an event of no branch":       {[][]api.Event{log([]int{0, 0}, []int{1, 0}), log([]int{0, 1})}, [][]int{{0, 1}}, []int{0, 1}},
	} {
		h, taken := checkMerge(t, c.l)
		if !slices.EqualFunc(stamps(h), c.want, slices.Equal) || !slices.Equal(taken, c.taken) {
			t.Errorf("%s: %d, %d; want %d, %d", name, stamps(h), taken, c.want, c.taken)
		}
	}
}

// P12.1: a stamp has n counts, no fewer, no more, though those that are left out, or that are more, be noughts.
func TestMergeLengths(t *testing.T) {
	for name, c := range map[string]struct {
		l     [][]api.Event
		taken []int
	}{
		"no counts of one branch":  {[][]api.Event{log(nil, []int{1})}, []int{0}},
		"no counts of two":         {[][]api.Event{log([]int{}), log([]int{0, 1})}, []int{0, 1}},
		"two counts of one":        {[][]api.Event{log([]int{1, 0})}, []int{0}},
		"one count of two":         {[][]api.Event{log([]int{1}), log([]int{0, 1})}, []int{0, 1}},
		"three counts of two":      {[][]api.Event{log([]int{1, 0}), log([]int{0, 1, 0})}, []int{1, 0}},
		"three, one below 0":       {[][]api.Event{log([]int{1, 0, -1}), log([]int{0, 1})}, []int{0, 1}},
		"one count later":          {[][]api.Event{log([]int{1, 0}, []int{2}, []int{3, 0}), log([]int{2, 1})}, []int{1, 0}},
		"three counts later":       {[][]api.Event{log([]int{1, 0}, []int{2, 0, 0}), log([]int{0, 1}, []int{2, 2})}, []int{1, 1}},
		"64 counts of two":         {[][]api.Event{log(counts(64, 0, 1)), nil}, []int{0, 0}},
		"two counts of three":      {[][]api.Event{log([]int{1, 0}), log([]int{0, 1}), log([]int{0, 0, 1})}, []int{0, 0, 1}},
		"each has its own number":  {[][]api.Event{log([]int{1}), log([]int{0, 1}), log([]int{0, 0, 1}), log([]int{0, 0, 0, 1})}, []int{0, 0, 0, 1}},
		"room behind the last one": {[][]api.Event{log(append(make([]int, 0, 9), 1)), log([]int{0, 1})}, []int{0, 1}},
	} {
		if _, taken := checkMerge(t, c.l); !slices.Equal(taken, c.taken) {
			t.Errorf("%s: %d, want %d", name, taken, c.taken)
		}
	}
}

// P12.1: stamp.Next takes any numbers: a count below 0 of another branch is not greater; the own one must be the next one.
func TestMergeNumbers(t *testing.T) {
	for _, c := range []struct {
		stamp []int
		taken int
	}{
		{[]int{1, 0}, 1}, {[]int{1, -1}, 1}, {[]int{1, -7}, 1}, {[]int{1, least}, 1},
		{[]int{1, 1}, 0}, {[]int{1, most}, 0}, {[]int{-1, 0}, 0}, {[]int{least, 0}, 0}, {[]int{most, 0}, 0},
		{[]int{0, -1}, 0}, {[]int{-1, -1}, 0}, {[]int{1<<32 + 1, 0}, 0}, {[]int{1, 1 << 32}, 0}, {[]int{1 << 40, 0}, 0},
	} {
		l := [][]api.Event{log(c.stamp), nil}
		if h, taken := checkMerge(t, l); taken[0] != c.taken || len(h) != c.taken {
			t.Errorf("%d: %d, %d", c.stamp, h, taken)
		}
		want := api.OK
		if c.taken == 0 {
			want = api.ErrArg
		}
		checkSplit(t, log(c.stamp), 2, want)
	}
}

// P12.1: an event is handed on as it is, right or not.
func TestMergeAnyEvents(t *testing.T) {
	for _, e := range []api.Event{{}, {Kind: api.EvStart, Item: 1}, {Kind: api.EvSlip, Item: 63, Try: 3}, {Kind: -1, Item: -2, Try: -3}, {Kind: 7, Item: 64, Try: 4}, {Kind: most, Item: least, Try: most}} {
		e.Stamp = []int{0, 1}
		h, _ := checkMerge(t, [][]api.Event{nil, {e}})
		if len(h) != 1 || !sameEvent(h[0], e) {
			t.Errorf("%d: %d", e, h)
		}
		if l := checkSplit(t, h, 2, api.OK); !sameLogs(l, [][]api.Event{nil, {e}}) {
			t.Errorf("%d: %d", e, l)
		}
	}
}

// P12.1, P12.2: so many branches may be as a stamp may have counts; beyond that there are none.
func TestBranches(t *testing.T) {
	for _, n := range []int{0, 1, 2, 3, 63, 64, 65, 66, 128, 129, 256, 257, 1000} {
		l := make([][]api.Event, n)
		var want []api.Event
		for i := range l {
			l[i] = log(counts(n, i, 1), counts(n, i, 2))
			want = append(want, l[i]...)
		}
		h, taken := checkMerge(t, l)
		if n < 1 || n > 64 {
			if len(h) != 0 || len(taken) != 0 {
				t.Errorf("%d branches: %d, %d", n, h, taken)
			}
			checkSplit(t, want, n, api.ErrArg)
			checkSplit(t, nil, n, api.ErrArg)
			continue
		}
		if !sameLog(h, want) || !slices.Equal(taken, slices.Repeat([]int{2}, n)) {
			t.Errorf("%d branches: %d, %d", n, h, taken)
		}
		if parts := checkSplit(t, want, n, api.OK); !sameLogs(parts, l) {
			t.Errorf("%d branches: %d", n, parts)
		}
		checkMerge(t, make([][]api.Event, n))
	}
	for _, n := range []int{least, least + 1, -1 << 32, -1<<32 + 1, -64, -2, -1, 0, 65, 66, 127, 128, 256 + 1, 1 << 31, 1 << 32, 1<<32 + 1, 1<<32 + 64, most - 1, most} {
		checkSplit(t, nil, n, api.ErrArg)
		checkSplit(t, log([]int{1}), n, api.ErrArg)
	}
}

// P12.1: each branch has heard of all behind it: the greatest one goes first.
func TestMergeBackward(t *testing.T) {
	for _, n := range []int{1, 2, 3, 63, 64} {
		l := make([][]api.Event, n)
		for i := range l {
			s := make([]int, n)
			for k := i; k < n; k++ {
				s[k] = 1
			}
			l[i] = log(s)
		}
		h, _ := checkMerge(t, l)
		for k := range n {
			if len(h) != n || !sameEvent(h[k], l[n-1-k][0]) {
				t.Fatalf("%d branches: %d", n, h)
			}
		}
		// Without the greatest one's nothing has come.
		l[n-1] = nil
		if h, taken := checkMerge(t, l); len(h) != 0 || slices.Max(taken) != 0 {
			t.Fatalf("%d branches: %d, %d", n, h, taken)
		}
	}
}

// P12.2: an empty list is a history of each number of branches that may be.
func TestSplitEmpty(t *testing.T) {
	for n := -3; n <= 70; n++ {
		for _, h := range [][]api.Event{nil, {}, log([]int{1})[:0]} {
			want := api.ErrArg
			if n >= 1 && n <= 64 {
				want = api.OK
			}
			if l := checkSplit(t, h, n, want); want == api.OK && len(l) != n {
				t.Errorf("%d branches: %d", n, l)
			}
		}
	}
}

// P12.2
func TestSplit(t *testing.T) {
	for name, c := range map[string]struct {
		h    []api.Event
		n    int
		want [][]int // the places of each branch's events; none: it is no history
	}{
		"one branch":               {log([]int{1}, []int{2}, []int{3}), 1, [][]int{{0, 1, 2}}},
		"two":                      {log([]int{1, 0}, []int{0, 1}, []int{2, 1}, []int{2, 2}), 2, [][]int{{0, 2}, {1, 3}}},
		"two, the other order":     {log([]int{0, 1}, []int{1, 0}, []int{2, 1}, []int{2, 2}), 2, [][]int{{1, 2}, {0, 3}}},
		"the first has none":       {log([]int{0, 1}, []int{0, 2}), 2, [][]int{nil, {0, 1}}},
		"the last has none":        {log([]int{1, 0}, []int{2, 0}), 2, [][]int{{0, 1}, nil}},
		"the one between has none": {log([]int{0, 0, 1}, []int{1, 0, 0}), 3, [][]int{{1}, nil, {0}}},
		"counts below 0":           {log([]int{-1, 1}, []int{1, -5}, []int{least, 2}), 2, [][]int{{1}, {0, 2}}},
		"of one branch fewer":      {log([]int{1, 0}), 1, nil},
		"of one branch more":       {log([]int{1, 0}), 3, nil},
		"of no branch":             {log([]int{1, 0}), 0, nil},
		"of -1 branches":           {log([]int{1, 0}), -1, nil},
		"no counts":                {log(nil), 1, nil},
		"no counts, later":         {log([]int{1}, nil), 1, nil},
		"one count of two":         {log([]int{1}), 2, nil},
		"one count of two, later":  {log([]int{1, 0}, []int{2}), 2, nil},
		"three counts of two":      {log([]int{1, 0, 0}), 2, nil},
		"the first one left out":   {log([]int{0, 1}, []int{2, 1}, []int{2, 2}), 2, nil},
		"the second left out":      {log([]int{1, 0}, []int{2, 1}, []int{2, 2}), 2, nil},
		"the third left out":       {log([]int{1, 0}, []int{0, 1}, []int{2, 2}), 2, nil},
		"the last left out":        {log([]int{1, 0}, []int{0, 1}, []int{2, 1}), 2, [][]int{{0, 2}, {1}}},
		"one doubled":              {log([]int{1, 0}, []int{1, 0}, []int{0, 1}), 2, nil},
		"one doubled, at the end":  {log([]int{1, 0}, []int{0, 1}, []int{1, 0}), 2, nil},
		"two turned round":         {log([]int{2, 0}, []int{1, 0}), 2, nil},
		"an effect ahead":          {log([]int{1, 1}, []int{0, 1}), 2, nil},
		"next of both":             {log([]int{1, 1}), 2, nil},
		"next of none":             {log([]int{0, 0}), 2, nil},
		"next of none, at the end": {log([]int{1, 0}, []int{1, 0}), 2, nil},
		"a count that comes later": {log([]int{1, 0}, []int{2, 1}, []int{0, 1}), 2, nil},
		"the own count below 0":    {log([]int{-1, 0}), 2, nil},
		"the greatest count":       {log([]int{1, 0}, []int{most, 0}), 2, nil},
		"a great count of another": {log([]int{1, most}), 2, nil},
	} {
		if c.want == nil {
			checkSplit(t, c.h, c.n, api.ErrArg)
			continue
		}
		for i, log := range checkSplit(t, c.h, c.n, api.OK) {
			var want []api.Event
			for _, at := range c.want[i] {
				want = append(want, c.h[at])
			}
			if !sameLog(log, want) {
				t.Errorf("%s: branch %d: %d, want %d", name, i, log, want)
			}
		}
	}
}

// P12.3
func TestAhead(t *testing.T) {
	h := log([]int{1, 2}, []int{1, 3}, []int{2, 1}, []int{1, 2}, []int{1}, []int{1, 0}, nil, []int{0, 0, 0}, []int{1, 2, 1}, []int{-1, 2}, []int{least, most}, []int{1, 2, -1})
	for _, c := range []struct {
		i, k int
		want bool
	}{
		{0, 1, true}, {1, 0, false}, // Before, After
		{0, 2, false}, {2, 0, false}, // Beside
		{0, 3, false}, {3, 0, false}, // Same
		{0, 0, false}, {11, 11, false}, // a place and itself
		{4, 5, false}, {5, 4, false}, {6, 7, false}, {7, 6, false}, // Same, of unlike lengths
		{4, 0, true}, {0, 4, false}, {6, 0, true}, {0, 8, true}, {8, 0, false}, {0, 7, false}, {7, 8, true},
		{4, 8, true}, {8, 4, false}, {2, 8, false}, {8, 2, false},
		{9, 0, true}, {0, 9, false}, {9, 10, false}, {10, 9, false}, {11, 0, true}, {0, 11, false},
		{-1, 0, false}, {0, -1, false}, {-1, -1, false}, {12, 0, false}, {6, 12, false}, {12, 12, false}, {-1, 12, false},
		{least, 0, false}, {6, least, false}, {6, most, false}, {most, 1, false}, {6, 1 << 32, false}, {1<<32 + 6, 1, false}, {-1 << 32, 1, false},
	} {
		if got := Ahead(h, c.i, c.k); got != c.want {
			t.Errorf("Ahead(%d, %d): %t", c.i, c.k, got)
		}
	}
	for i := -2; i <= len(h)+1; i++ {
		for k := -2; k <= len(h)+1; k++ {
			checkAhead(t, h, i, k)
			// What stands behind a list's end is none of its events.
			checkAhead(t, h[:5], i, k)
			checkAhead(t, nil, i, k)
		}
	}
}

// P12.3: the one branch of which the counts are unlike may be any.
func TestAheadEach(t *testing.T) {
	for _, n := range []int{1, 2, 64, 65, 200} {
		for i := range n {
			h := log(make([]int, n), counts(n, i, 1), make([]int, i), counts(i+1, i, 1))
			if !Ahead(h, 0, 1) || Ahead(h, 1, 0) || !Ahead(h, 2, 1) || Ahead(h, 1, 3) || !Ahead(h, 0, 3) {
				t.Fatalf("branch %d of %d", i, n)
			}
		}
	}
}

// P12.1: all logs of up to two events, in two branches, with stamps of counts at which something changes.
func TestAllLogs(t *testing.T) {
	of := append(some(2, []int{-1, 0, 1, 2}), nil, []int{1}, []int{1, 0, 0}, []int{0, 1, 0})
	all := upTo(2, of)
	for _, a := range all {
		for _, b := range all {
			checkMerge(t, [][]api.Event{log(a...), log(b...)})
		}
	}
	for _, a := range upTo(4, append(some(1, []int{-1, 0, 1, 2, 3}), nil, []int{1, 0})) {
		checkMerge(t, [][]api.Event{log(a...)})
	}
}

// P12.1: all logs of up to one event in three branches.
func TestAllThree(t *testing.T) {
	all := upTo(1, some(3, []int{0, 1, 2}))
	for _, a := range all {
		for _, b := range all {
			for _, c := range all {
				checkMerge(t, [][]api.Event{log(a...), log(b...), log(c...)})
			}
		}
	}
}

// P12.2: all lists of up to three events, with stamps of counts at which something changes.
func TestAllLists(t *testing.T) {
	of := append(some(2, []int{-1, 0, 1, 2}), nil, []int{1}, []int{2}, []int{1, 0, 0}, []int{0, 0, 1})
	for _, l := range upTo(3, of) {
		h := log(l...)
		for _, n := range []int{-1, 0, 1, 2, 3, 64, 65} {
			_, want := expectSplit(h, n)
			checkSplit(t, h, n, want)
		}
	}
}

// P12.2, P12.5, P12.6: of all orders of what happened just those are histories in which nothing stands behind what it is ahead of, and all of them have one merge.
func TestAllOrders(t *testing.T) {
	r := rand.New(rand.NewSource(12))
	for range 60 {
		n := 1 + r.Intn(4)
		h := anyHistory(r, n, r.Intn(7))
		logs := checkSplit(t, h, n, api.OK)
		canon, _ := checkMerge(t, logs)
		histories := 0
		for _, l := range orders(h) {
			want := api.OK
			for k := range l {
				for i := range k {
					if Ahead(l, k, i) {
						want = api.ErrArg
					}
				}
			}
			parts := checkSplit(t, l, n, want)
			if want != api.OK {
				continue
			}
			histories++
			if !sameLogs(parts, logs) {
				t.Fatalf("%d: %d, want %d", l, parts, logs)
			}
			if again, _ := Merge(parts); !sameLog(again, canon) {
				t.Fatalf("%d: %d, want %d", l, again, canon)
			}
		}
		if histories == 0 {
			t.Fatalf("%d: no order of it is a history", h)
		}
	}
}

// P12.4 to P12.6: long histories of many branches, in any order that holds.
func TestAnyHistory(t *testing.T) {
	r := rand.New(rand.NewSource(1204))
	for range 300 {
		n := 1 + r.Intn(10)
		if r.Intn(10) == 0 {
			n = 60 + r.Intn(5)
		}
		h := anyHistory(r, n, 1+r.Intn(100))
		logs := checkSplit(t, h, n, api.OK)
		canon, taken := checkMerge(t, logs)
		if len(canon) != len(h) {
			t.Fatalf("%d of %d events are taken: %d", len(canon), len(h), taken)
		}
		other := anyOrder(r, h)
		parts := checkSplit(t, other, n, api.OK)
		if again, _ := checkMerge(t, parts); !sameLogs(parts, logs) || !sameLog(again, canon) {
			t.Fatalf("%d: %d, want %d", other, again, canon)
		}
		// A beginning of a history is a history.
		checkSplit(t, h[:r.Intn(len(h))], n, api.OK)
	}
}

// P12.1, P12.2: histories and logs of which something was left out, doubled, put elsewhere or turned.
func TestAnyTurned(t *testing.T) {
	r := rand.New(rand.NewSource(1201))
	for range 4000 {
		n := 1 + r.Intn(5)
		h := anyHistory(r, n, 1+r.Intn(20))
		logs, _ := expectSplit(h, n)
		for range 1 + r.Intn(2) {
			h = anyTurn(r, h)
			i := r.Intn(n)
			logs[i] = anyTurn(r, logs[i])
		}
		_, want := expectSplit(h, n)
		checkSplit(t, h, n, want)
		checkMerge(t, logs)
		checkMerge(t, append(logs, nil))
		checkMerge(t, logs[:n-1])
		for range 20 {
			checkAhead(t, h, r.Intn(len(h)+2)-1, r.Intn(len(h)+2)-1)
		}
	}
}

// P12.2: each single event of a history left out, or doubled: it is no history, but where the last one of its branch, of which none has heard, is left out.
func TestLeftOutAndDoubled(t *testing.T) {
	r := rand.New(rand.NewSource(1202))
	for range 100 {
		n := 1 + r.Intn(4)
		h := anyHistory(r, n, 12)
		for k := range h {
			want := api.OK
			for i := range h {
				if Ahead(h, k, i) {
					want = api.ErrArg
				}
			}
			checkSplit(t, slices.Concat(h[:k], h[k+1:]), n, want)
			for at := range len(h) + 1 {
				checkSplit(t, slices.Concat(h[:at], h[k:k+1], h[at:]), n, api.ErrArg)
			}
		}
	}
}

// P12.7: beginnings of logs, be they whole or such as have holes.
func TestBeginnings(t *testing.T) {
	r := rand.New(rand.NewSource(1207))
	for round := range 1500 {
		n := 1 + r.Intn(6)
		logs, _ := expectSplit(anyHistory(r, n, r.Intn(40)), n)
		if round%2 == 1 {
			i := r.Intn(n)
			logs[i] = anyTurn(r, logs[i])
		}
		all, taken := checkMerge(t, logs)
		less := make([][]api.Event, n)
		for i, log := range logs {
			less[i] = log[:r.Intn(len(log)+1)]
		}
		h, fewer := checkMerge(t, less)
		for i := range fewer {
			if fewer[i] > taken[i] {
				t.Fatalf("of beginnings %d are taken, of all %d", fewer, taken)
			}
		}
		for _, e := range h {
			if !slices.ContainsFunc(all, func(other api.Event) bool { return sameEvent(e, other) }) {
				t.Fatalf("%d is not in %d", e, all)
			}
		}
		// With all that was taken nothing else is taken.
		for i := range less {
			less[i] = logs[i][:taken[i]]
		}
		if again, _ := checkMerge(t, less); !sameLog(again, all) {
			t.Fatalf("%d, merged again: %d", all, again)
		}
	}
}

// P12.7: all beginnings of some logs: just those events are there that all they have heard of is there with.
func TestAllBeginnings(t *testing.T) {
	r := rand.New(rand.NewSource(12071))
	for range 40 {
		logs, _ := expectSplit(anyHistory(r, 3, 12), 3)
		for a := range len(logs[0]) + 1 {
			for b := range len(logs[1]) + 1 {
				for c := range len(logs[2]) + 1 {
					had := []int{a, b, c}
					_, taken := checkMerge(t, [][]api.Event{logs[0][:a], logs[1][:b], logs[2][:c]})
					for i := range had {
						want := 0
						for want < had[i] && within(logs[i][want].Stamp, had) {
							want++
						}
						if taken[i] != want {
							t.Fatalf("of %d events %d are taken, want %d of branch %d", had, taken, want, i)
						}
					}
				}
			}
		}
	}
}

// within tells whether no count is greater than another stamp's.
func within(s, had []int) bool {
	for i := range s {
		if s[i] > had[i] {
			return false
		}
	}
	return true
}

// What tells events ends where it is left.
func TestLeftEarly(t *testing.T) {
	l := [][]api.Event{log([]int{1, 0}, []int{2, 1}), log([]int{0, 1}, []int{2, 2})}
	h, _ := Merge(l)
	for leave := 1; leave <= 4; leave++ {
		told := 0
		for range merged(l) {
			if told++; told == leave {
				break
			}
		}
		parts := 0
		for range parted(h, 2) {
			if parts++; parts == leave {
				break
			}
		}
		if told != leave || parts != leave {
			t.Errorf("left behind %d: %d, %d", leave, told, parts)
		}
	}
	for i := range fronts(l, []int{0, 0}) {
		if i != 0 {
			t.Errorf("left at 0, but told %d", i)
		}
		break
	}
}

// spoil overwrites all of some events, and what stands behind the ends of their lists, too.
func spoil(l []api.Event) {
	for i := range l {
		s := l[i].Stamp[:cap(l[i].Stamp)]
		for k := range s {
			s[k] = -7
		}
	}
	clear(l[:cap(l)])
}

// handed is branches' logs in one piece of memory, as are their stamps, each list with room that is another's.
func handed() [][]api.Event {
	counts := []int{1, 0, 2, 1, 0, 1, 2, 2, 9, 9}
	events := []api.Event{ev(counts[0:2]...), ev(counts[2:4]...), ev(counts[4:6]...), ev(counts[6:8]...), ev(counts[8:10]...)}
	return [][]api.Event{events[0:2], events[2:4], events[4:5]}[:2]
}

// What is handed in stays as it was, what stands behind its end, too.
func TestArgumentsStay(t *testing.T) {
	l, was := handed(), cloneLogs(handed()[:3])
	h, _ := Merge(l)
	history, kept := h[:3], cloneLog(h)
	for n := -1; n <= 3; n++ {
		Check(history, n)
		Split(history, n)
		for i := -1; i <= 4; i++ {
			Ahead(history, n, i)
		}
		Merge(l[:min(max(n, 0), 2)])
	}
	if !sameLogs(l[:3], was) || !sameLog(h, kept) {
		t.Errorf("%d, %d; was %d, %d", l[:3], h, was, kept)
	}
}

// An answer shares nothing with arguments, nor with other answers, nor do its own parts with each other.
func TestNewMemory(t *testing.T) {
	l := handed()
	want := log([]int{1, 0}, []int{0, 1}, []int{2, 1}, []int{2, 2})
	for i := range want {
		want[i].Kind, want[i].Item, want[i].Try = api.EvOk, 3, 0
	}
	wantParts := [][]api.Event{{want[0], want[2]}, {want[1], want[3]}}
	expect := func(h []api.Event, taken []int, parts [][]api.Event) {
		t.Helper()
		if !sameLog(h, want) || !slices.Equal(taken, []int{2, 2}) || !sameLogs(parts, wantParts) {
			t.Fatalf("%d, %d, %d; want %d, %d", h, taken, parts, want, wantParts)
		}
	}
	answers := func() ([]api.Event, []int, [][]api.Event) {
		h, taken := Merge(l)
		parts, _ := Split(h, 2)
		return h, taken, parts
	}
	h, taken, parts := answers()
	others, otherTaken, otherParts := answers()
	spoil(h)
	expect(others, otherTaken, parts)
	clear(taken[:cap(taken)])
	expect(others, otherTaken, parts)
	spoil(parts[0])
	if !sameLog(parts[1], wantParts[1]) {
		t.Fatalf("%d, want %d", parts[1], wantParts[1])
	}
	spoil(parts[1])
	clear(parts[:cap(parts)])
	expect(others, otherTaken, otherParts)
	expect(answers())
	spoil(l[0])
	spoil(l[1])
	clear(l[:cap(l)])
	expect(others, otherTaken, otherParts)
	// One stamp's room is not another one's.
	for i := range others {
		others[i].Stamp = append(others[i].Stamp, -7)[:2]
	}
	expect(others, otherTaken, otherParts)
}

// The chapter's example.
func TestExamples(t *testing.T) {
	zero, one := []api.Event{ev(1, 0), ev(2, 1)}, []api.Event{ev(0, 1), ev(2, 2)}
	h, taken := Merge([][]api.Event{zero, one})
	if !sameLog(h, []api.Event{ev(1, 0), ev(0, 1), ev(2, 1), ev(2, 2)}) || !slices.Equal(taken, []int{2, 2}) {
		t.Errorf("%d, %d", h, taken)
	}
	h, taken = Merge([][]api.Event{zero, one[1:]})
	if !sameLog(h, []api.Event{ev(1, 0)}) || !slices.Equal(taken, []int{1, 0}) {
		t.Errorf("without 0 1: %d, %d", h, taken)
	}
}
