package engine

import (
	"slices"
	"strings"

	"counterfoil/api"
	"counterfoil/control"
	"counterfoil/fresh"
	"counterfoil/kinds"
	"counterfoil/option"
	"counterfoil/owner"
	"counterfoil/submit"
	"counterfoil/tree"
	"counterfoil/valid"
)

// Add makes a node that stands in no other one yet.
func (w *World) Add(name, text string) (int, api.Errno) {
	if err := w.begin(); err != api.OK {
		return 0, err
	}
	nodes, id, err := tree.Add(w.doc.Nodes, name, text)
	if err != api.OK {
		return 0, err
	}
	w.doc.Nodes = nodes
	w.doc.Ctls = append(w.doc.Ctls, control.Start(w.kind(id), nil, ""))
	w.settle()
	return id, api.OK
}

// Insert looks for before itself, as layer 10 looks for it only behind other errors.
func (w *World) Insert(parent, child, before int) api.Errno {
	named := []int{parent, child}
	if before != none {
		named = append(named, before)
	}
	if err := w.begin(named...); err != api.OK {
		return err
	}
	nodes, err := tree.Insert(w.doc.Nodes, parent, child, before)
	if err != api.OK {
		return err
	}
	w.doc.Nodes = nodes
	w.settle()
	return api.OK
}

// Remove takes a node from its parent.
func (w *World) Remove(id int) api.Errno {
	if err := w.begin(id); err != api.OK {
		return err
	}
	return w.remove(id)
}

// Set sets an attribute.
func (w *World) Set(id int, name, value string) api.Errno {
	if err := w.begin(id); err != api.OK {
		return err
	}
	return w.set(id, name, value)
}

// Unset takes an attribute away.
func (w *World) Unset(id int, name string) api.Errno {
	if err := w.begin(id); err != api.OK {
		return err
	}
	return w.unset(id, name)
}

// Write is a program's: it fires nothing, and may write what a person can't.
func (w *World) Write(id int, s string) api.Errno {
	if err := w.begin(id); err != api.OK {
		return err
	}
	return w.write(id, s)
}

// Check is a program's too.
func (w *World) Check(id int, on bool) api.Errno {
	if err := w.begin(id); err != api.OK {
		return err
	}
	return w.check(id, on)
}

// Custom tells what is wrong with a control; nothing, if s is empty.
func (w *World) Custom(id int, s string) api.Errno {
	if err := w.begin(id); err != api.OK {
		return err
	}
	return w.custom(id, s)
}

// Listen asks for the listener's own node alone: those that its acts are about may come later, or never.
func (w *World) Listen(l api.Listener) api.Errno {
	if err := w.begin(l.Node); err != api.OK {
		return err
	}
	isLong := func(a api.Act) bool { return len(a.Name) > api.MaxText || len(a.Value) > api.MaxText }
	isNone := func(a api.Act) bool { return a.Kind < api.APrevent || a.Kind > api.ACustom }
	switch {
	case len(l.Type) > longestType, len(l.Acts) > mostActs, slices.ContainsFunc(l.Acts, isLong):
		return api.ErrRange
	case slices.ContainsFunc(l.Acts, isNone):
		return api.ErrKind
	case len(w.listeners) >= mostListeners:
		return api.ErrFull
	}
	own := api.Listener{Node: l.Node, Type: strings.Clone(l.Type), Capture: l.Capture}
	for _, a := range l.Acts {
		a.Name, a.Value = strings.Clone(a.Name), strings.Clone(a.Value)
		own.Acts = append(own.Acts, a)
	}
	w.listeners = append(w.listeners, own)
	return api.OK
}

// Type is a person's writing.
func (w *World) Type(id int, s string) api.Errno {
	if err := w.begin(id); err != api.OK {
		return err
	}
	kind := w.kind(id)
	if owner.Disabled(w.doc.Nodes, id) || kinds.Applies(kind, "readonly") && w.has(id, "readonly") {
		return api.ErrState
	}
	state, err := control.Type(kind, w.doc.Ctls[id], w.doc.Nodes[id].Attrs, s)
	if err != api.OK {
		return err
	}
	w.doc.Ctls[id] = state
	w.fire(input, id)
	return api.OK
}

// Choose is a person's choice of an option.
func (w *World) Choose(opt int, on bool) api.Errno {
	if err := w.begin(opt); err != api.OK {
		return err
	}
	states, err := option.Choose(w.doc, opt, on)
	if err != api.OK {
		return err
	}
	sel := w.selectOf(opt)
	if owner.Disabled(w.doc.Nodes, sel) {
		return api.ErrState
	}
	w.doc.Ctls = states
	w.fire(input, sel)
	w.fire(change, sel)
	return api.OK
}

// selectOf needs an option of a select, which may stand in a group of it.
func (w *World) selectOf(opt int) int {
	up := w.doc.Nodes[opt].Parent
	if w.kind(up) == api.KGroup {
		up = w.doc.Nodes[up].Parent
	}
	return up
}

// Pick is a person's choice of files, instead of those that were chosen ahead.
func (w *World) Pick(id int, files []api.Entry) api.Errno {
	if err := w.begin(id); err != api.OK {
		return err
	}
	switch {
	case owner.Disabled(w.doc.Nodes, id):
		return api.ErrState
	case w.kind(id) != api.KFile:
		return api.ErrKind
	case len(files) > mostFiles, len(files) > 1 && !w.has(id, "multiple"):
		return api.ErrRange
	}
	own := fresh.Ctl(api.Ctl{Files: files}).Files
	for i := range own {
		own[i].File = true
	}
	w.doc.Ctls[id].Files = own
	w.fire(input, id)
	w.fire(change, id)
	return api.OK
}

// Click is a person's.
func (w *World) Click(id int) api.Errno {
	if err := w.begin(id); err != api.OK {
		return err
	}
	switch {
	case owner.Disabled(w.doc.Nodes, id):
		return api.ErrState
	case w.isText(id):
		return api.ErrKind
	}
	w.click(id)
	return api.OK
}

// Enter is a person's key in a control.
func (w *World) Enter(id int) api.Errno {
	if err := w.begin(id); err != api.OK {
		return err
	}
	const clicksButton, submitsForm = 1, 2 // what layer 24 tells
	switch to, does := submit.Enter(w.doc.Nodes, id); does {
	case clicksButton:
		w.click(to)
	case submitsForm:
		w.submit(to, none)
	default:
		return api.ErrState
	}
	return api.OK
}

// Submit is a program's. It tells nothing of what comes of it: the log and the plans do.
func (w *World) Submit(form, submitter int) api.Errno {
	named := []int{form}
	if submitter != none {
		named = append(named, submitter)
	}
	if err := w.begin(named...); err != api.OK {
		return err
	}
	if w.kind(form) != api.KForm || submitter != none && !w.submitsBy(form, submitter) {
		return api.ErrKind
	}
	w.submit(form, submitter)
	return api.OK
}

func (w *World) submitsBy(form, submitter int) bool {
	return kinds.Fires(w.kind(submitter)) && owner.Form(w.doc.Nodes, submitter) == form
}

// Reset is a program's.
func (w *World) Reset(form int) api.Errno {
	if err := w.begin(form); err != api.OK {
		return err
	}
	if w.kind(form) != api.KForm {
		return api.ErrKind
	}
	w.reset(form)
	return api.OK
}

// Ask tells what was so ahead of the events: listeners may change it.
func (w *World) Ask(id int) (bool, api.Errno) {
	if err := w.begin(id); err != api.OK {
		return false, err
	}
	kind := w.kind(id)
	switch {
	case kind == api.KForm:
		return w.ask(id), api.OK
	case !kinds.Submits(kind):
		return false, api.ErrKind
	}
	isValid := valid.Valid(w.doc, id)
	if !isValid {
		w.fire(invalid, id)
	}
	return isValid, api.OK
}
