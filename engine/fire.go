package engine

import (
	"counterfoil/api"
	"counterfoil/event"
)

// The types of events that the engine looks at by itself.
const (
	click    = "click"
	input    = "input"
	change   = "change"
	invalid  = "invalid"
	submits  = "submit"
	formdata = "formdata"
	resets   = "reset"
)

// firing is an event that is being fired, and what listeners have made of it.
type firing struct {
	kind      string
	target    int
	prevented bool
	ended     bool // no listener at all is called any more
	stopped   bool // none of another node than place
	place     int
}

// fire tells whether what is to come of the event may come: it was neither refused nor prevented.
func (w *World) fire(kind string, target int) bool {
	if w.isFull() {
		w.tell("refused "+kind, target)
		return false
	}
	w.tell("event "+kind, target)
	e := firing{kind: kind, target: target}
	w.within++
	w.fired++
	w.call(&e)
	w.within--
	return !e.prevented || !event.Cancels(kind)
}

// call has the calls told ahead of the first one: no act changes who else is called.
func (w *World) call(e *firing) {
calls:
	for _, c := range event.Calls(w.doc.Nodes, w.listeners, e.target, e.kind, event.Bubbles(e.kind)) {
		switch {
		case e.ended, e.stopped && c.Node != e.place:
			break calls
		}
		w.tell(e.kind, c.Node, c.Phase, c.Listener)
		for _, a := range w.listeners[c.Listener].Acts {
			w.do(e, c.Node, a)
		}
	}
}

// do does an act of a listener that was called at that node.
func (w *World) do(e *firing, at int, a api.Act) {
	switch a.Kind {
	case api.APrevent:
		e.prevented = true
	case api.AStop:
		e.stopped, e.place = true, at
	case api.ANow:
		e.ended = true
	case api.AAppend:
		if e.kind == formdata {
			w.collect(e.target, api.Entry{Name: a.Name, Value: a.Value})
		}
	default:
		if w.isThere(a.Node) {
			w.act(a)
		}
	}
}

// act leaves what can't be done: nobody is told of an error.
func (w *World) act(a api.Act) {
	switch a.Kind {
	case api.ASet:
		w.set(a.Node, a.Name, a.Value)
	case api.AUnset:
		w.unset(a.Node, a.Name)
	case api.AWrite:
		w.write(a.Node, a.Value)
	case api.ACheck:
		w.check(a.Node, a.Value != "")
	case api.ARemove:
		w.remove(a.Node)
	case api.ASubmit:
		w.submit(a.Node, none)
	case api.AReset:
		w.reset(a.Node)
	case api.AClick:
		w.click(a.Node)
	case api.ACustom:
		w.custom(a.Node, a.Value)
	}
}
