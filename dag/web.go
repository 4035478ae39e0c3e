package dag

import (
	"math/bits"

	"argosy/api"
)

// So many arcs are there if each node leans on each: more of them say nothing new.
const maxArcs = api.MaxItems * api.MaxItems

// set is nodes as bits of one number: 64, as many as there may be.
type set uint64

func only(node int) set { return 1 << node }

func (s set) has(node int) bool { return s&only(node) != 0 }

// nodes tells those of a set, rising.
func (s set) nodes() []int {
	var l []int
	for s != 0 {
		l = append(l, bits.TrailingZeros64(uint64(s)))
		s &= s - 1
	}
	return l
}

// web is, of each node, those on which it leans by one arc.
type web []set

func isNode(node, n int) bool { return node >= 0 && node < n }

// weave tells what leans on what, and the nodes in order.
func weave(n int, l []api.Arc) (w web, order []int, e api.Errno) {
	if n < 0 || n > api.MaxItems || len(l) > maxArcs {
		return nil, nil, api.ErrArg
	}
	w = make(web, n)
	for _, a := range l {
		if !isNode(a.From, n) || !isNode(a.To, n) {
			return nil, nil, api.ErrArg
		}
		w[a.To] |= only(a.From)
	}
	defer func() {
		if told := recover(); told != nil {
			w, order, e = nil, nil, told.(api.Errno)
		}
	}()
	return w, w.order(), api.OK
}

// order tells all nodes, the least of the free ones first. It panics with ErrCycle: only where there is a circle can nodes be left of which none is free.
func (w web) order() []int {
	var there set
	order := make([]int, 0, len(w))
	for range w {
		next := w.free(there) &^ there
		if next == 0 {
			panic(api.ErrCycle)
		}
		least := bits.TrailingZeros64(uint64(next))
		order = append(order, least)
		there |= only(least)
	}
	return order
}

// free tells the nodes that lean on none but those.
func (w web) free(those set) set {
	var s set
	for node, ahead := range w {
		if ahead&^those == 0 {
			s |= only(node)
		}
	}
	return s
}

// reach tells of each node those from which a chain leads to it. In order they are known of all on which it leans.
func (w web) reach(order []int) []set {
	reach := make([]set, len(w))
	for _, node := range order {
		reach[node] = w[node]
		for _, from := range w[node].nodes() {
			reach[node] |= reach[from]
		}
	}
	return reach
}

// needed tells of each node those of its arcs beside which no longer chain leads to it: such a chain's last but one is one on which it leans.
func (w web) needed(reach []set) web {
	needed := make(web, len(w))
	for node, ahead := range w {
		needed[node] = ahead
		for _, last := range ahead.nodes() {
			needed[node] &^= reach[last]
		}
	}
	return needed
}
