package engine

import (
	"strings"

	"counterfoil/api"
	"counterfoil/control"
	"counterfoil/group"
	"counterfoil/kinds"
	"counterfoil/option"
	"counterfoil/tree"
)

// settle makes good what a change of the document, or of its states, has left: values that are texts within, groups and selects.
func (w *World) settle() {
	for id := range w.doc.Nodes {
		kind := w.kind(id)
		if (kind == api.KArea || kind == api.KOutput) && !w.doc.Ctls[id].Dirty {
			w.doc.Ctls[id].Value = control.Start(kind, w.doc.Nodes[id].Attrs, tree.Text(w.doc.Nodes, id)).Value
		}
	}
	if w.areSeveralChecked() {
		w.doc.Ctls = group.Settle(w.doc)
	}
	for id, n := range w.doc.Nodes {
		if kinds.Of(n) == api.KSelect && len(n.Kids) > 0 {
			w.doc.Ctls = option.Fix(w.doc, id)
		}
	}
}

// areSeveralChecked spares a look at all groups of the document, where no radio button can be one too many.
func (w *World) areSeveralChecked() bool {
	count := 0
	for id, c := range w.doc.Ctls {
		if c.Checked && w.kind(id) == api.KRadio {
			count++
		}
	}
	return count > 1
}

func (w *World) set(id int, name, value string) api.Errno {
	nodes, err := tree.Set(w.doc.Nodes, id, name, value)
	if err != api.OK {
		return err
	}
	w.turnTo(nodes, id, name)
	return api.OK
}

func (w *World) unset(id int, name string) api.Errno {
	nodes, err := tree.Unset(w.doc.Nodes, id, name)
	if err != api.OK {
		return err
	}
	w.turnTo(nodes, id, name)
	return api.OK
}

// turnTo takes nodes in which id's attribute of that name is another one.
func (w *World) turnTo(nodes []api.Node, id int, name string) {
	old := w.kind(id)
	w.doc.Nodes = nodes
	state := &w.doc.Ctls[id]
	if name == "type" && nodes[id].Name == "input" {
		retyped, value, isKept := control.Retype(old, w.kind(id), *state, nodes[id].Attrs)
		*state = retyped
		if isKept {
			w.keep(id, value)
		}
	} else {
		*state = control.Changed(w.kind(id), *state, nodes[id].Attrs, name)
	}
	w.settle()
}

// keep puts a value that would be lost into the attribute, if there is room for one.
func (w *World) keep(id int, value string) {
	if nodes, err := tree.Set(w.doc.Nodes, id, "value", value); err == api.OK {
		w.doc.Nodes = nodes
	}
}

// write asks for a text first, as nobody else tells one from an element that has no value.
func (w *World) write(id int, s string) api.Errno {
	kind := w.kind(id)
	switch {
	case w.isText(id):
		return api.ErrKind
	case kind == api.KSelect && len(s) > api.MaxText:
		return api.ErrRange
	case kind == api.KSelect:
		w.doc.Ctls = option.Write(w.doc, id, s)
		w.settle()
		return api.OK
	}
	state, inAttribute, err := control.Write(kind, w.doc.Ctls[id], w.doc.Nodes[id].Attrs, s)
	switch {
	case err != api.OK:
		return err
	case inAttribute:
		return w.set(id, "value", s)
	}
	w.doc.Ctls[id] = state
	return api.OK
}

func (w *World) check(id int, on bool) api.Errno {
	states, err := group.Check(w.doc, id, on)
	if err != api.OK {
		return err
	}
	w.doc.Ctls = states
	return api.OK
}

func (w *World) remove(id int) api.Errno {
	nodes, err := tree.Remove(w.doc.Nodes, id)
	if err != api.OK {
		return err
	}
	w.doc.Nodes = nodes
	w.settle()
	return api.OK
}

func (w *World) custom(id int, s string) api.Errno {
	switch {
	case !kinds.Submits(w.kind(id)):
		return api.ErrKind
	case len(s) > api.MaxText:
		return api.ErrRange
	}
	w.doc.Ctls[id].Custom = strings.Clone(s)
	return api.OK
}

// begins makes a control as it began.
func (w *World) begins(id int) {
	kind := w.kind(id)
	switch {
	case kind == api.KSelect:
		w.doc.Ctls = option.Reset(w.doc, id)
	case kinds.Resets(kind):
		w.doc.Ctls[id] = control.Reset(kind, w.doc.Ctls[id], w.doc.Nodes[id].Attrs, tree.Text(w.doc.Nodes, id))
	}
}
