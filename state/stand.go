package state

import "argosy/api"

// noBody is where an item is that is no saga.
const noBody = -1

// marks tell of each item, by its number, whether something holds of it; bodies of each body of an item.
type (
	marks  [api.MaxItems]bool
	bodies [api.MaxItems][api.MaxAlts]bool
)

// standing is a plan, what is known of its steps, and what holds of its items by that.
type standing struct {
	items []api.Item
	facts []api.Fact

	touched, clean, spent, done marks
}

// boardOf tells a board. The facts must be right of the plan.
func boardOf(p api.Plan, l []api.Fact) *Board {
	w := &standing{items: p.Items, facts: l}
	w.mark(&w.touched, hasBegun, w.sagaTouched)
	w.mark(&w.clean, stepClean, w.sagaClean)
	// Whether a saga is spent hangs on what is clean, and whether it is done on what is spent.
	w.mark(&w.spent, never, w.sagaSpent)
	w.mark(&w.done, stepDone, w.sagaDone)
	b := &Board{count: len(w.items), clean: w.clean, falling: w.falling()}
	for i, x := range w.items {
		if !x.Sub {
			b.at[i], b.status[i] = noBody, stepStatus(l[i])
			continue
		}
		b.at[i], b.status[i] = w.body(i), w.sagaStatus(i, b.falling.around(i, x))
	}
	return b
}

// mark puts down whether something holds: of a step by what is known of it, of a saga by what was put down of the items in it. These stand behind it, so it is asked of the last item first.
func (w *standing) mark(m *marks, step func(f api.Fact) bool, saga func(s int) bool) {
	for i := len(w.items) - 1; i >= 0; i-- {
		if w.items[i].Sub {
			m[i] = saga(i)
		} else {
			m[i] = step(w.facts[i])
		}
	}
}

func hasBegun(f api.Fact) bool { return f.Run > api.RunIdle }

func stepDone(f api.Fact) bool { return f.Run == api.RunOk && f.Tries == 0 }

func stepClean(f api.Fact) bool {
	return f.Run == api.RunIdle || f.Run == api.RunFailed || f.Undone
}

// never is asked of steps where something holds of sagas alone.
func never(api.Fact) bool { return false }

func (w *standing) sagaTouched(s int) bool {
	isUntouched := func(i int) bool { return !w.touched[i] }
	return !w.everyBody(s, func(alt int) bool { return w.every(s, alt, isUntouched) })
}

func (w *standing) sagaClean(s int) bool {
	return w.everyBody(s, func(alt int) bool { return w.bodyClean(s, alt) })
}

func (w *standing) sagaSpent(s int) bool {
	return w.everyBody(s, func(alt int) bool { return w.isOver(s, alt) })
}

func (w *standing) sagaDone(s int) bool { return !w.spent[s] && w.isWhole(s, w.body(s)) }

// body tells the place of a saga's body.
func (w *standing) body(s int) int {
	at := 0
	for at < w.items[s].Alts-1 && w.isOver(s, at) {
		at++
	}
	return at
}

// isOver tells whether a body fell, and nothing in it is left to be undone.
func (w *standing) isOver(s, alt int) bool { return w.bodyClean(s, alt) && w.falls(s, alt) }

func (w *standing) bodyClean(s, alt int) bool {
	return w.every(s, alt, func(i int) bool { return w.clean[i] })
}

func (w *standing) falls(s, alt int) bool {
	holds := func(i int) bool {
		isSpent := w.items[i].Vital && w.spent[i]
		return w.facts[i].Run != api.RunFailed && !isSpent
	}
	return !w.every(s, alt, holds)
}

func (w *standing) isWhole(s, alt int) bool {
	return w.every(s, alt, func(i int) bool {
		isSpared := !w.items[i].Vital && w.spent[i]
		return w.done[i] || isSpared
	})
}

// every tells whether something holds of all items of a body.
func (w *standing) every(s, alt int, holds func(i int) bool) bool {
	for i := s + 1; i < len(w.items); i++ {
		x := &w.items[i]
		if x.In == s && x.Alt == alt && !holds(i) {
			return false
		}
	}
	return true
}

// everyBody tells whether something holds of all bodies of a saga.
func (w *standing) everyBody(s int, holds func(alt int) bool) bool {
	for alt := range w.items[s].Alts {
		if !holds(alt) {
			return false
		}
	}
	return true
}

// falling tells which bodies fall, or are those of a saga that is halted. A saga stands behind the one in which it stands, so the first item comes first.
func (w *standing) falling() bodies {
	var m bodies
	for s, x := range w.items {
		isHalted := m.around(s, x)
		for alt := range x.Alts {
			m[s][alt] = isHalted || w.falls(s, alt)
		}
	}
	return m
}

// around tells whether it holds of the body in which an item stands. The saga 0 stands in none.
func (m *bodies) around(i int, x api.Item) bool { return i > 0 && m[x.In][x.Alt] }

func stepStatus(f api.Fact) api.Status {
	switch {
	case f.Run == api.RunIdle:
		return api.Idle
	case f.Run == api.RunBegun:
		return api.Running
	case f.Run == api.RunFailed:
		return api.Failed
	case stepDone(f):
		return api.Done
	case f.Undone:
		return api.Undone
	}
	return api.Undoing
}

func (w *standing) sagaStatus(s int, isHalted bool) api.Status {
	switch {
	case !w.touched[s]:
		return api.Idle
	case w.done[s]:
		return api.Done
	case w.spent[s]:
		return api.Failed
	case !isHalted:
		return api.Running
	case w.clean[s]:
		return api.Undone
	}
	return api.Undoing
}
