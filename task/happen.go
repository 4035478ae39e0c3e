package task

import "argosy/api"

// begins tells the event by which a key begins.
func begins(k api.Key) api.Event {
	if k.Undo {
		return happens(k, api.EvUndo)
	}
	return happens(k, api.EvStart)
}

// ends tells the event by which a key ends.
func ends(k api.Key, ok bool) api.Event {
	switch {
	case k.Undo && ok:
		return happens(k, api.EvUndone)
	case k.Undo:
		return happens(k, api.EvSlip)
	case ok:
		return happens(k, api.EvOk)
	}
	return happens(k, api.EvFail)
}

// happens tells an event of a key. When it happens is nothing to what is known then, so it has the least stamp that is right.
func happens(k api.Key, kind api.EventKind) api.Event {
	return api.Event{Kind: kind, Item: k.Item, Try: k.Try, Stamp: []int{0}}
}
