package task

import (
	"iter"

	"argosy/api"
	"argosy/plan"
	"argosy/state"
)

// outlook is a plan, what is known of its steps, and how its items stand by that.
type outlook struct {
	items  []api.Item
	facts  []api.Fact
	view   *plan.View
	board  *state.Board
	status []api.Status
}

// see tells an outlook, or ErrArg of facts that are not right of the plan.
func see(p api.Plan, l []api.Fact) (*outlook, api.Errno) {
	board, e := state.See(p, l)
	if e != api.OK {
		return nil, e
	}
	view, e := plan.See(p)
	return &outlook{items: p.Items, facts: l, view: view, board: board, status: board.All()}, e
}

// keys tells the keys of all steps that may begin, or be undone.
func (o *outlook) keys() iter.Seq[api.Key] {
	may := func(i int) bool { return o.mayBegin(i) || o.mayBeUndone(i) }
	return func(yield func(k api.Key) bool) {
		for i := range through(len(o.items), may) {
			if !yield(keyOf(i, o.facts[i])) {
				return
			}
		}
	}
}

// through tells those of so many items that a function lets through.
func through(count int, lets func(i int) bool) iter.Seq[int] {
	return func(yield func(i int) bool) {
		for i := range count {
			if lets(i) && !yield(i) {
				return
			}
		}
	}
}

// keyOf tells the key of a step that may begin, or be undone.
func keyOf(i int, f api.Fact) api.Key {
	if f.Run == api.RunIdle {
		return api.Key{Item: i}
	}
	return api.Key{Item: i, Undo: true, Try: f.Slips}
}

func (o *outlook) mayBegin(i int) bool {
	return !o.items[i].Sub && o.facts[i].Run == api.RunIdle && o.isReached(i)
}

func (o *outlook) mayBeUndone(i int) bool {
	f := o.facts[i]
	isLeft := f.Run == api.RunOk && !f.Undone && f.Tries == f.Slips
	return isLeft && o.board.Falling(o.items[i].In, o.items[i].Alt) && o.isBare(i)
}

// isReached is asked of items that stand in a saga: not of 0.
func (o *outlook) isReached(i int) bool {
	x := o.items[i]
	if o.board.At(x.In) != x.Alt || o.board.Falling(x.In, x.Alt) || !o.runs(x.In) {
		return false
	}
	for _, on := range x.After {
		if !o.letsGoOn(on) {
			return false
		}
	}
	return true
}

// runs tells whether a saga runs. A saga that began nothing is neither done nor spent, so its status tells both.
func (o *outlook) runs(s int) bool {
	isOver := o.status[s] == api.Done || o.status[s] == api.Failed
	return !isOver && (s == 0 || o.isReached(s))
}

// letsGoOn tells whether what leans on an item alone may go on: it is done, or it is spent, and was not needed.
func (o *outlook) letsGoOn(i int) bool {
	isSpared := o.items[i].Sub && !o.items[i].Vital && o.status[i] == api.Failed
	return o.status[i] == api.Done || isSpared
}

// isBare tells whether nothing is left to be undone of what leans on an item, or on a saga in which it stands.
func (o *outlook) isBare(i int) bool {
	for over := range o.over(i) {
		if !o.board.Clean(over) {
			return false
		}
	}
	return true
}

// over tells what leans on an item, and on the sagas in which it stands.
func (o *outlook) over(i int) iter.Seq[int] {
	return func(yield func(i int) bool) {
		for _, on := range append(o.view.Above(i), i) {
			for _, over := range o.view.Over(on) {
				if !yield(over) {
					return
				}
			}
		}
	}
}
