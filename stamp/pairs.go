package stamp

import "iter"

// pair is two stamps' counts of one branch.
type pair struct{ branch, a, b int }

// pairs tells two stamps' counts side by side, from branch 0 to the last one that either has; the shorter one counts 0 where it has ended.
func pairs(a, b []int) iter.Seq[pair] {
	return func(yield func(p pair) bool) {
		for i := range max(len(a), len(b)) {
			if !yield(pair{i, At(a, i), At(b, i)}) {
				return
			}
		}
	}
}

// all tells whether something holds of two stamps' counts, branch by branch.
func all(a, b []int, holds func(p pair) bool) bool {
	for p := range pairs(a, b) {
		if !holds(p) {
			return false
		}
	}
	return true
}
