package event

import (
	"strconv"

	"argosy/api"
	"argosy/wire"
)

// sort is one of the three sorts that events are of, by their kinds: ofStep, ofTry or ofNone. It tells its kind's word.
type sort interface{ word() string }

// ofStep is what happened to a step itself: it is told without a try.
type ofStep struct{ name string }

// ofTry is what happened to a try to undo a step: it is told with that try.
type ofTry struct{ name string }

// ofNone is what no kind of events stands for.
type ofNone struct{}

func (s ofStep) word() string { return s.name }
func (s ofTry) word() string  { return s.name }
func (s ofNone) word() string { return "" }

func sortOf(k api.EventKind) sort {
	switch k {
	case api.EvStart:
		return ofStep{"start"}
	case api.EvOk:
		return ofStep{"ok"}
	case api.EvFail:
		return ofStep{"fail"}
	case api.EvUndo:
		return ofTry{"undo"}
	case api.EvUndone:
		return ofTry{"undone"}
	case api.EvSlip:
		return ofTry{"slip"}
	}
	return ofNone{}
}

// tryFits tells whether an event of a sort may have a try.
func tryFits(s sort, try int) bool {
	switch s.(type) {
	case ofStep:
		return try == 0
	case ofTry:
		return try >= 0 && try <= api.MaxTries
	}
	return false
}

// headText tells what stands ahead of a stamp in a text.
func headText(s sort, item, try int) string {
	text := s.word() + " " + strconv.Itoa(item)
	if _, tried := s.(ofTry); tried {
		text += "." + strconv.Itoa(try)
	}
	return text
}

// putHead tells the bytes ahead of a right event's stamp.
func putHead(e api.Event) ([]byte, api.Errno) {
	b, fault := wire.Put([]byte{byte(e.Kind)}, e.Item)
	if _, tried := sortOf(e.Kind).(ofTry); !tried || fault != api.OK {
		return b, fault
	}
	return wire.Put(b, e.Try)
}

// takeHead takes what stands ahead of a stamp; it tells the place behind it. Whether such an event may be is not asked yet.
func takeHead(b []byte) (api.Event, int, api.Errno) {
	if len(b) == 0 {
		return api.Event{}, 0, api.ErrShort
	}
	kind := api.EventKind(b[0])
	item, at, fault := wire.Take(b, 1)
	e := api.Event{Kind: kind, Item: item}
	if _, tried := sortOf(kind).(ofTry); tried && fault == api.OK {
		e.Try, at, fault = wire.Take(b, at)
	}
	return e, at, fault
}
