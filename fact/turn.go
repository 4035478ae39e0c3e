package fact

import (
	"argosy/api"
	"argosy/event"
)

// rightOf tells whether a fact is right of an item.
func rightOf(x api.Item, f api.Fact) bool {
	if x.Sub {
		return f == idle()
	}
	return right(f)
}

// right tells whether a fact is right of a step.
func right(f api.Fact) bool {
	if f.Run < api.RunIdle || f.Run > api.RunFailed || f.Slips < 0 || f.Slips > api.MaxTries {
		return false
	}
	if f.Run != api.RunOk && f.Tries != 0 {
		return false
	}
	// The try that is more than those that failed is on its way, or has undone the step.
	isMore := f.Tries == f.Slips+1
	return isMore || f.Tries == f.Slips && !f.Undone
}

// The facts between which events lead. An event fits at one right fact alone, so what is known is held against the whole of that one.

func idle() api.Fact   { return api.Fact{} }
func begun() api.Fact  { return api.Fact{Run: api.RunBegun} }
func failed() api.Fact { return api.Fact{Run: api.RunFailed} }

// untried is a step of which so many tries to undo it failed, and none is on its way.
func untried(try int) api.Fact { return api.Fact{Run: api.RunOk, Tries: try, Slips: try} }

// trying is a step of which a try to undo it is on its way.
func trying(try int) api.Fact { return api.Fact{Run: api.RunOk, Tries: try + 1, Slips: try} }

// undoneBy is a step that a try has undone.
func undoneBy(try int) api.Fact {
	return api.Fact{Run: api.RunOk, Tries: try + 1, Slips: try, Undone: true}
}

// turn is what an event of a try meets: what is known of its step. Its methods tell, of an event of each kind, what is known then, and whether it fits.
type turn struct {
	known api.Fact
	try   int
}

func (t turn) start() (api.Fact, bool)  { return begun(), t.known == idle() }
func (t turn) ok() (api.Fact, bool)     { return untried(0), t.known == begun() }
func (t turn) fail() (api.Fact, bool)   { return failed(), t.known == begun() }
func (t turn) undo() (api.Fact, bool)   { return trying(t.try), t.known == untried(t.try) }
func (t turn) undone() (api.Fact, bool) { return undoneBy(t.try), t.known == trying(t.try) }

func (t turn) slip() (api.Fact, bool) {
	// The last try does not fail.
	return untried(t.try + 1), t.known == trying(t.try) && t.try < api.MaxTries
}

// none is met by what is of no kind.
func (t turn) none() (api.Fact, bool) { return api.Fact{}, false }

// by picks what an event of a kind does.
func (t turn) by(k api.EventKind) func() (api.Fact, bool) {
	switch k {
	case api.EvStart:
		return t.start
	case api.EvOk:
		return t.ok
	case api.EvFail:
		return t.fail
	case api.EvUndo:
		return t.undo
	case api.EvUndone:
		return t.undone
	case api.EvSlip:
		return t.slip
	}
	return t.none
}

// happen puts what is known behind an event in the place of what was known ahead of it. The facts must be right of the plan.
func happen(p api.Plan, l []api.Fact, e api.Event) api.Errno {
	if event.Check(e) != api.OK {
		return api.ErrArg
	}
	if e.Item >= len(p.Items) || p.Items[e.Item].Sub {
		return api.ErrState
	}
	does := turn{known: l[e.Item], try: e.Try}.by(e.Kind)
	then, fits := does()
	if !fits {
		return api.ErrState
	}
	l[e.Item] = then
	return api.OK
}
