package calc

import (
	"argosy/api"
	"argosy/fact"
	"argosy/oracle"
	"argosy/task"
)

// onward tells what goes on when so many keys were done, and that is known: which keys begin, and which one is done then; false: nothing goes on.
type onward func(done int, known []api.Fact) (begin []api.Key, end api.Key, ok bool)

// walk goes on from no facts, step by step, until nothing goes on, or what should may not. It tells what was done, as a script says, and what is known then.
func walk(p api.Plan, s []byte, next onward) ([]api.Effect, []api.Fact) {
	var done []api.Effect
	known := fact.None(p)
steps:
	for {
		begin, end, ok := next(len(done), known)
		if !ok {
			break
		}
		for _, k := range begin {
			then, e := task.Begin(p, known, k)
			if e != api.OK {
				break steps
			}
			known = then
		}
		x := api.Effect{Key: end, Ok: oracle.Ok(s, end)}
		then, e := task.End(p, known, end, x.Ok)
		if e != api.OK {
			break
		}
		done, known = append(done, x), then
	}
	return done, known
}

// along tells what goes on along a trace: all begin that may, and that it still has ahead of it.
func along(p api.Plan, s []byte, l []api.Effect) onward {
	last := lastPlaces(p, l)
	return func(done int, known []api.Fact) ([]api.Key, api.Key, bool) {
		if done == len(l) || l[done].Ok != oracle.Ok(s, l[done].Key) {
			return nil, api.Key{}, false
		}
		var begin []api.Key
		for _, k := range task.May(p, known) {
			if at, ok := last[k]; ok && at >= done {
				begin = append(begin, k)
			}
		}
		return begin, l[done].Key, true
	}
}

// lastPlaces tells where keys stand last. Those that never may begin are left out, so that there are no more of them than the plan has.
func lastPlaces(p api.Plan, l []api.Effect) map[api.Key]int {
	last := map[api.Key]int{}
	for at, x := range l {
		isThere := x.Key.Item >= 0 && x.Key.Item < len(p.Items)
		if isThere && x.Key.Try >= 0 && x.Key.Try <= api.MaxTries {
			last[x.Key] = at
		}
	}
	return last
}

// picking tells what goes on as it is picked: one key alone begins, and is done.
func picking(p api.Plan, picks []int) onward {
	return func(done int, known []api.Fact) ([]api.Key, api.Key, bool) {
		may := task.May(p, known)
		if len(may) == 0 {
			return nil, api.Key{}, false
		}
		at := 0
		if done < len(picks) {
			at = from0(picks[done], len(may))
		}
		return may[at : at+1], may[at], true
	}
}

// from0 tells what is left of a number modulo another one, from 0 on of one below 0, too.
func from0(n, of int) int {
	return (n%of + of) % of
}
