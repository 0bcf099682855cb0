package engine

import (
	"counterfoil/api"
	"counterfoil/entry"
	"counterfoil/group"
	"counterfoil/kinds"
	"counterfoil/owner"
	"counterfoil/submit"
	"counterfoil/valid"
)

// mark is what a checkbox, or a radio button, was ahead of a click.
type mark struct {
	node                         int
	checked, mixed, dirtyChecked bool
}

// click turns marks ahead of the event, as listeners see them turned.
func (w *World) click(id int) {
	if w.isText(id) || owner.Disabled(w.doc.Nodes, id) {
		return
	}
	ahead := w.turn(id)
	if !w.fire(click, id) {
		w.turnBack(ahead)
		return
	}
	if actor := w.actor(id); actor != none {
		w.follow(id, actor)
	}
}

// turn tells what it turns, or may turn: of a radio button that is its group.
func (w *World) turn(id int) []mark {
	switch w.kind(id) {
	case api.KCheckbox:
		ahead := w.marks([]int{id})
		state := &w.doc.Ctls[id]
		state.Checked, state.Mixed, state.DirtyChecked = !state.Checked, false, true
		return ahead
	case api.KRadio:
		ahead := w.marks(group.Members(w.doc.Nodes, id))
		w.check(id, true)
		return ahead
	}
	return nil
}

func (w *World) marks(nodes []int) []mark {
	var all []mark
	for _, id := range nodes {
		c := w.doc.Ctls[id]
		all = append(all, mark{node: id, checked: c.Checked, mixed: c.Mixed, dirtyChecked: c.DirtyChecked})
	}
	return all
}

// turnBack settles too, as listeners may have put those that were of one group into others.
func (w *World) turnBack(ahead []mark) {
	for _, m := range ahead {
		state := &w.doc.Ctls[m.node]
		state.Checked, state.Mixed, state.DirtyChecked = m.checked, m.mixed, m.dirtyChecked
	}
	w.settle()
}

// actor is who acts on a click, or none.
func (w *World) actor(id int) int {
	for at := id; at != none; at = w.doc.Nodes[at].Parent {
		kind := w.kind(at)
		switch {
		case acts(kind) && owner.Disabled(w.doc.Nodes, at):
			return none
		case acts(kind):
			return at
		case kinds.Labels(kind):
			return none
		}
	}
	return none
}

func acts(kind int) bool {
	switch kind {
	case api.KCheckbox, api.KRadio, api.KSubmit, api.KImage, api.KReset, api.KSubmits, api.KResets, api.KPlain, api.KLabel:
		return true
	}
	return false
}

// follow is what comes of a click.
func (w *World) follow(clicked, actor int) {
	kind := w.kind(actor)
	switch {
	case kind == api.KCheckbox || kind == api.KRadio:
		if actor == clicked && w.isConnected(actor) {
			w.fire(input, actor)
			w.fire(change, actor)
		}
	case kinds.Fires(kind):
		if form := owner.Form(w.doc.Nodes, actor); form != none {
			w.submit(form, actor)
		}
	case kind == api.KReset || kind == api.KResets:
		if form := owner.Form(w.doc.Nodes, actor); form != none {
			w.reset(form)
		}
	case kind == api.KLabel:
		if to := owner.Control(w.doc.Nodes, actor); to != none {
			w.click(to)
		}
	}
}

// submit takes any node: what is no form is left.
func (w *World) submit(form, submitter int) {
	if w.kind(form) != api.KForm || !w.isConnected(form) {
		return
	}
	if w.isUnderway(form) {
		w.tell("guard", form)
		return
	}
	if submit.Asks(w.doc.Nodes, form, submitter) && !w.ask(form) {
		return
	}
	w.submitting[form] = now{}
	goesOn := w.fire(submits, form)
	delete(w.submitting, form)
	if !goesOn || !w.isConnected(form) {
		return
	}
	if w.isBuilding(form) {
		w.tell("guard", form)
		return
	}
	w.plan(form, submitter, w.build(form, submitter))
}

// ask tells whether nothing is wrong with the form's controls. Who is asked is told ahead of the first one: listeners may change what is wrong.
func (w *World) ask(form int) bool {
	wrong := valid.Wrong(w.doc, form)
	w.asking[form] = now{}
	for _, id := range wrong {
		w.fire(invalid, id)
	}
	delete(w.asking, form)
	return len(wrong) == 0
}

// build is what the form submits, with what listeners append.
func (w *World) build(form, submitter int) []api.Entry {
	w.building[form], _ = entry.List(w.doc, form, submitter)
	w.fire(formdata, form)
	built := w.building[form]
	delete(w.building, form)
	return built
}

func (w *World) plan(form, submitter int, entries []api.Entry) {
	made, err := submit.Make(w.doc, form, submitter, entries, w.draws)
	if err != api.OK {
		w.tell("bound", form)
		return
	}
	if len(w.plans) < mostPlans {
		w.plans = append(w.plans, made)
	}
	w.tell("plan", form)
}

// reset takes any node, as submit does; but a form that isn't connected is reset too.
func (w *World) reset(form int) {
	if w.kind(form) != api.KForm {
		return
	}
	if w.isResetting(form) {
		w.tell("guard", form)
		return
	}
	w.resetting[form] = now{}
	goesOn := w.fire(resets, form)
	delete(w.resetting, form)
	if !goesOn {
		return
	}
	for _, id := range owner.Elements(w.doc.Nodes, form) {
		w.begins(id)
	}
	w.settle()
}
