package engine

import (
	"math/rand"
	"reflect"
	"slices"
	"strconv"
	"strings"
	"testing"

	"counterfoil/api"
	"counterfoil/clean"
	"counterfoil/control"
	"counterfoil/entry"
	"counterfoil/event"
	"counterfoil/group"
	"counterfoil/kinds"
	"counterfoil/option"
	"counterfoil/owner"
	"counterfoil/submit"
	"counterfoil/tree"
	"counterfoil/valid"
)

// slow is the chapter's words written out once more: what is being fired is told by the events that are open, one within another, and not by forms.
type slow struct {
	d      api.Doc
	all    []api.Listener
	draws  []string
	log    []string
	plans  []api.Plan
	open   []opened
	fired  int
	asked  []int
	built  []building
	counts map[string]int
}

type opened struct {
	kind   string
	target int
}

type building struct {
	form    int
	entries []api.Entry
}

func newSlow(draws []string) *slow {
	return &slow{d: api.Doc{Nodes: []api.Node{{Name: "html", Parent: -1}}, Ctls: []api.Ctl{{}}}, draws: draws, counts: map[string]int{}}
}

func (s *slow) there(id int) bool { return id >= 0 && id < len(s.d.Nodes) }

func (s *slow) kind(id int) int { return kinds.Of(s.d.Nodes[id]) }

func (s *slow) attr(id int, name string) bool {
	_, ok := tree.Attr(s.d.Nodes, id, name)
	return ok
}

func (s *slow) say(words ...any) {
	var out []string
	for _, word := range words {
		switch word := word.(type) {
		case int:
			out = append(out, strconv.Itoa(word))
		case string:
			out = append(out, word)
		}
	}
	s.counts[out[0]]++
	if len(s.log) < 4000 {
		s.log = append(s.log, strings.Join(out, " "))
	}
}

func (s *slow) settle() {
	for id, n := range s.d.Nodes {
		if k := kinds.Of(n); (k == api.KArea || k == api.KOutput) && !s.d.Ctls[id].Dirty {
			s.d.Ctls[id].Value = control.Start(k, n.Attrs, tree.Text(s.d.Nodes, id)).Value
		}
	}
	s.d.Ctls = group.Settle(s.d)
	for id := range s.d.Nodes {
		if s.kind(id) == api.KSelect {
			s.d.Ctls = option.Fix(s.d, id)
		}
	}
}

// attribute is an attribute that is set, or taken away if value is nil.
func (s *slow) attribute(id int, name string, value *string) api.Errno {
	old := s.kind(id)
	var l []api.Node
	var e api.Errno
	if value != nil {
		l, e = tree.Set(s.d.Nodes, id, name, *value)
	} else {
		l, e = tree.Unset(s.d.Nodes, id, name)
	}
	if e != api.OK {
		s.counts["attribute refused"]++
		return e
	}
	s.d.Nodes = l
	if name == "type" && l[id].Name == "input" {
		c, text, ok := control.Retype(old, s.kind(id), s.d.Ctls[id], l[id].Attrs)
		s.d.Ctls[id] = c
		if ok {
			s.counts["kept"]++
			if l, e := tree.Set(s.d.Nodes, id, "value", text); e == api.OK {
				s.d.Nodes = l
			}
		}
	} else {
		s.d.Ctls[id] = control.Changed(s.kind(id), s.d.Ctls[id], l[id].Attrs, name)
	}
	s.settle()
	return api.OK
}

func (s *slow) write(id int, text string) api.Errno {
	if s.d.Nodes[id].Name == "" {
		return api.ErrKind
	}
	if s.kind(id) == api.KSelect {
		if len(text) > 4000 {
			return api.ErrRange
		}
		s.d.Ctls = option.Write(s.d, id, text)
		s.settle()
		return api.OK
	}
	c, isAttr, e := control.Write(s.kind(id), s.d.Ctls[id], s.d.Nodes[id].Attrs, text)
	if e != api.OK {
		return e
	}
	if isAttr {
		return s.attribute(id, "value", &text)
	}
	s.d.Ctls[id] = c
	return api.OK
}

// fire answers whether it was refused, and whether it was prevented.
func (s *slow) fire(kind string, target int) (bool, bool) {
	if len(s.open) >= 6 || s.fired >= 30 {
		s.say("refused", kind, target)
		return true, false
	}
	s.say("event", kind, target)
	s.open = append(s.open, opened{kind, target})
	s.fired++
	prevented, isNow, stop := false, false, -1
	for _, c := range event.Calls(s.d.Nodes, s.all, target, kind, event.Bubbles(kind)) {
		if isNow || stop >= 0 && c.Node != stop {
			s.counts["cut"]++
			break
		}
		s.say(kind, c.Node, c.Phase, c.Listener)
		for _, a := range s.all[c.Listener].Acts {
			prevented = prevented || a.Kind == api.APrevent
			isNow = isNow || a.Kind == api.ANow
			if a.Kind == api.AStop {
				stop = c.Node
			}
			if a.Kind == api.AAppend && kind == "formdata" {
				s.counts["appended"]++
				for i := range s.built {
					if s.built[i].form == target {
						s.built[i].entries = append(s.built[i].entries, api.Entry{Name: a.Name, Value: a.Value})
					}
				}
			}
			s.act(a)
		}
	}
	s.open = s.open[:len(s.open)-1]
	if prevented && event.Cancels(kind) {
		s.counts["prevented "+kind]++
		return false, true
	}
	return false, false
}

func (s *slow) act(a api.Act) {
	if !s.there(a.Node) {
		return
	}
	id := a.Node
	switch a.Kind {
	case api.ASet:
		s.attribute(id, a.Name, &a.Value)
	case api.AUnset:
		s.attribute(id, a.Name, nil)
	case api.AWrite:
		s.write(id, a.Value)
	case api.ACheck:
		if l, e := group.Check(s.d, id, a.Value != ""); e == api.OK {
			s.d.Ctls = l
		}
	case api.ARemove:
		if l, e := tree.Remove(s.d.Nodes, id); e == api.OK {
			s.d.Nodes = l
			s.settle()
		}
	case api.ASubmit:
		s.submit(id, -1)
	case api.AReset:
		s.reset(id)
	case api.AClick:
		s.click(id)
	case api.ACustom:
		if kinds.Submits(s.kind(id)) {
			s.d.Ctls[id].Custom = a.Value
		}
	}
}

func (s *slow) click(id int) {
	if s.d.Nodes[id].Name == "" || owner.Disabled(s.d.Nodes, id) {
		s.counts["not clicked"]++
		return
	}
	was := slices.Clone(s.d.Ctls)
	var turned []int
	switch s.kind(id) {
	case api.KCheckbox:
		turned = []int{id}
		s.d.Ctls[id].Checked = !was[id].Checked
		s.d.Ctls[id].Mixed = false
		s.d.Ctls[id].DirtyChecked = true
	case api.KRadio:
		turned = group.Members(s.d.Nodes, id)
		s.d.Ctls, _ = group.Check(s.d, id, true)
	}
	if refused, prevented := s.fire("click", id); refused || prevented {
		for _, k := range turned {
			s.counts["turned back"]++
			s.d.Ctls[k].Checked, s.d.Ctls[k].Mixed, s.d.Ctls[k].DirtyChecked = was[k].Checked, was[k].Mixed, was[k].DirtyChecked
		}
		s.settle()
		return
	}
	for at := id; at >= 0; at = s.d.Nodes[at].Parent {
		k := s.kind(at)
		if slices.Contains([]int{api.KCheckbox, api.KRadio, api.KSubmit, api.KImage, api.KReset, api.KSubmits, api.KResets, api.KPlain, api.KLabel}, k) {
			if !owner.Disabled(s.d.Nodes, at) {
				s.acts(at, k, id)
			} else {
				s.counts["disabled actor"]++
			}
			return
		}
		if kinds.Labels(k) {
			return
		}
	}
}

func (s *slow) acts(at, kind, clicked int) {
	form := owner.Form(s.d.Nodes, at)
	switch kind {
	case api.KCheckbox, api.KRadio:
		if at == clicked && tree.Top(s.d.Nodes, at) == 0 {
			s.fire("input", at)
			s.fire("change", at)
		}
	case api.KSubmit, api.KImage, api.KSubmits:
		if form >= 0 {
			s.submit(form, at)
		}
	case api.KReset, api.KResets:
		if form >= 0 {
			s.reset(form)
		}
	case api.KLabel:
		if to := owner.Control(s.d.Nodes, at); to >= 0 {
			s.counts["label"]++
			s.click(to)
		}
	}
}

func (s *slow) ask(form int) []int {
	wrong := valid.Wrong(s.d, form)
	s.asked = append(s.asked, form)
	for _, id := range wrong {
		s.fire("invalid", id)
	}
	s.asked = s.asked[:len(s.asked)-1]
	return wrong
}

func (s *slow) isOpen(kind string, target int) bool {
	return slices.Contains(s.open, opened{kind, target})
}

func (s *slow) submit(form, by int) {
	if s.kind(form) != api.KForm || tree.Top(s.d.Nodes, form) != 0 {
		return
	}
	if s.isOpen("submit", form) || slices.Contains(s.asked, form) {
		s.counts["guard by "+map[bool]string{true: "submit", false: "asked"}[s.isOpen("submit", form)]]++
		s.say("guard", form)
		return
	}
	if submit.Asks(s.d.Nodes, form, by) && len(s.ask(form)) > 0 {
		return
	}
	if refused, prevented := s.fire("submit", form); refused || prevented || tree.Top(s.d.Nodes, form) != 0 {
		return
	}
	if slices.ContainsFunc(s.built, func(b building) bool { return b.form == form }) {
		s.counts["guard by building"]++
		s.say("guard", form)
		return
	}
	entries, _ := entry.List(s.d, form, by)
	s.built = append(s.built, building{form, entries})
	s.fire("formdata", form)
	entries = s.built[len(s.built)-1].entries
	s.built = s.built[:len(s.built)-1]
	p, e := submit.Make(s.d, form, by, entries, s.draws)
	if e != api.OK {
		s.say("bound", form)
		return
	}
	if len(s.plans) < 64 {
		s.plans = append(s.plans, p)
	}
	s.say("plan", form)
}

func (s *slow) reset(form int) {
	if s.kind(form) != api.KForm {
		return
	}
	if s.isOpen("reset", form) {
		s.counts["guard by reset"]++
		s.say("guard", form)
		return
	}
	if refused, prevented := s.fire("reset", form); refused || prevented {
		return
	}
	for _, id := range owner.Elements(s.d.Nodes, form) {
		switch k := s.kind(id); {
		case !kinds.Resets(k):
		case k == api.KSelect:
			s.d.Ctls = option.Reset(s.d, id)
		default:
			s.d.Ctls[id] = control.Reset(k, s.d.Ctls[id], s.d.Nodes[id].Attrs, tree.Text(s.d.Nodes, id))
		}
	}
	s.settle()
}

// step is one that is drawn: its name, nodes, texts.
type step struct {
	name    string
	a, b, c int
	s, t    string
	on      bool
	l       api.Listener
	files   []api.Entry
}

// do is the step of a world; answer is a number, or whether it is so.
func (p step) do(w *World) (int, api.Errno) {
	switch p.name {
	case "add":
		return w.Add(p.s, p.t)
	case "insert":
		return 0, w.Insert(p.a, p.b, p.c)
	case "remove":
		return 0, w.Remove(p.a)
	case "set":
		return 0, w.Set(p.a, p.s, p.t)
	case "unset":
		return 0, w.Unset(p.a, p.s)
	case "write":
		return 0, w.Write(p.a, p.t)
	case "check":
		return 0, w.Check(p.a, p.on)
	case "custom":
		return 0, w.Custom(p.a, p.t)
	case "listen":
		return 0, w.Listen(p.l)
	case "type":
		return 0, w.Type(p.a, p.t)
	case "choose":
		return 0, w.Choose(p.a, p.on)
	case "pick":
		return 0, w.Pick(p.a, p.files)
	case "click":
		return 0, w.Click(p.a)
	case "enter":
		return 0, w.Enter(p.a)
	case "submit":
		return 0, w.Submit(p.a, p.b)
	case "reset":
		return 0, w.Reset(p.a)
	}
	ok, e := w.Ask(p.a)
	return map[bool]int{true: 1}[ok], e
}

// slowly is the step by the chapter's words.
func (p step) slowly(s *slow) (int, api.Errno) {
	s.fired = 0
	named := []int{p.a}
	switch p.name {
	case "add":
		named = nil
	case "insert", "submit":
		named = []int{p.a, p.b}
		if p.name == "insert" && p.c != -1 {
			named = append(named, p.c)
		}
		if p.name == "submit" && p.b == -1 {
			named = named[:1]
		}
	case "listen":
		named = []int{p.l.Node}
	}
	for _, id := range named {
		if !s.there(id) {
			return 0, api.ErrNode
		}
	}
	switch p.name {
	case "add":
		l, id, e := tree.Add(s.d.Nodes, p.s, p.t)
		if e == api.OK {
			s.d.Nodes = l
			s.d.Ctls = append(s.d.Ctls, control.Start(s.kind(id), nil, ""))
			s.settle()
		}
		return id, e
	case "insert", "remove":
		l, e := tree.Remove(s.d.Nodes, p.a)
		if p.name == "insert" {
			l, e = tree.Insert(s.d.Nodes, p.a, p.b, p.c)
		}
		if e == api.OK {
			s.d.Nodes = l
			s.settle()
		}
		return 0, e
	case "set":
		return 0, s.attribute(p.a, p.s, &p.t)
	case "unset":
		return 0, s.attribute(p.a, p.s, nil)
	case "write":
		return 0, s.write(p.a, p.t)
	case "check":
		l, e := group.Check(s.d, p.a, p.on)
		if e == api.OK {
			s.d.Ctls = l
		}
		return 0, e
	case "custom":
		if !kinds.Submits(s.kind(p.a)) {
			return 0, api.ErrKind
		}
		if len(p.t) > 4000 {
			return 0, api.ErrRange
		}
		s.d.Ctls[p.a].Custom = p.t
		return 0, api.OK
	case "listen":
		return 0, s.listen(p.l)
	case "ask":
		return s.asking(p.a)
	}
	return 0, p.person(s)
}

func (s *slow) listen(l api.Listener) api.Errno {
	if len(l.Type) > 20 || len(l.Acts) > 8 {
		return api.ErrRange
	}
	for _, a := range l.Acts {
		if len(a.Name) > 4000 || len(a.Value) > 4000 {
			return api.ErrRange
		}
	}
	for _, a := range l.Acts {
		if a.Kind < 1 || a.Kind > 13 {
			return api.ErrKind
		}
	}
	if len(s.all) == 32 {
		return api.ErrFull
	}
	s.all = append(s.all, l)
	return api.OK
}

func (s *slow) asking(id int) (int, api.Errno) {
	if s.kind(id) == api.KForm {
		if len(s.ask(id)) == 0 {
			return 1, api.OK
		}
		return 0, api.OK
	}
	if !kinds.Submits(s.kind(id)) {
		return 0, api.ErrKind
	}
	if valid.Valid(s.d, id) {
		return 1, api.OK
	}
	s.fire("invalid", id)
	return 0, api.OK
}

// person is a person's step, or Submit, or Reset.
func (p step) person(s *slow) api.Errno {
	disabled := owner.Disabled(s.d.Nodes, p.a)
	switch p.name {
	case "type":
		if disabled || s.attr(p.a, "readonly") && kinds.Applies(s.kind(p.a), "readonly") {
			return api.ErrState
		}
		c, e := control.Type(s.kind(p.a), s.d.Ctls[p.a], s.d.Nodes[p.a].Attrs, p.t)
		if e != api.OK {
			return e
		}
		s.d.Ctls[p.a] = c
		s.fire("input", p.a)
	case "choose":
		l, e := option.Choose(s.d, p.a, p.on)
		if e != api.OK {
			return e
		}
		sel := slices.IndexFunc(s.d.Nodes, func(n api.Node) bool {
			return kinds.Of(n) == api.KSelect && slices.Contains(option.List(s.d.Nodes, slices.IndexFunc(s.d.Nodes, func(m api.Node) bool { return reflect.DeepEqual(m, n) })), p.a)
		})
		if owner.Disabled(s.d.Nodes, sel) {
			return api.ErrState
		}
		s.d.Ctls = l
		s.fire("input", sel)
		s.fire("change", sel)
	case "pick":
		if disabled {
			return api.ErrState
		}
		if s.kind(p.a) != api.KFile {
			return api.ErrKind
		}
		if len(p.files) > 4 || len(p.files) > 1 && !s.attr(p.a, "multiple") {
			return api.ErrRange
		}
		var own []api.Entry
		for _, f := range p.files {
			f.File = true
			own = append(own, f)
		}
		s.d.Ctls[p.a].Files = own
		s.fire("input", p.a)
		s.fire("change", p.a)
	case "click":
		if disabled {
			return api.ErrState
		}
		if s.d.Nodes[p.a].Name == "" {
			return api.ErrKind
		}
		s.click(p.a)
	case "enter":
		id, what := submit.Enter(s.d.Nodes, p.a)
		if what == 0 {
			return api.ErrState
		}
		if what == 1 {
			s.counts["enter clicks"]++
			s.click(id)
		} else {
			s.counts["enter submits"]++
			s.submit(id, -1)
		}
	case "submit":
		if s.kind(p.a) != api.KForm || p.b != -1 && (!kinds.Fires(s.kind(p.b)) || owner.Form(s.d.Nodes, p.b) != p.a) {
			return api.ErrKind
		}
		s.submit(p.a, p.b)
	case "reset":
		if s.kind(p.a) != api.KForm {
			return api.ErrKind
		}
		s.reset(p.a)
	}
	return api.OK
}

func draw(r *rand.Rand, list ...string) string { return list[r.Intn(len(list))] }

func drawText(r *rand.Rand) string {
	return draw(r, "", "", "x", "x", "7", "2.5", "-1", "b1", "a@b", "a@b,c@d", " http://a/ ", "http://a/", "2020-01-05", "2020-W05", "12:30", "#FFF", "a\r\nb", "é")
}

// drawAttr is an attribute that means something somewhere.
func drawAttr(r *rand.Rand) (string, string) {
	switch r.Intn(16) {
	case 0, 1:
		return "type", draw(r, append(slices.Clone(inputTypes), "radio", "radio", "checkbox", "submit", "file", "x", "RADIO")...)
	case 2, 3:
		return "name", draw(r, "r", "r", "a", "", "_charset_")
	case 4, 5:
		return "value", drawText(r)
	case 6:
		return draw(r, "min", "max", "step"), draw(r, "0", "5", "10", "any", "", "2020-01-01")
	case 7:
		return draw(r, "required", "required", "disabled", "disabled", "readonly"), ""
	case 8:
		return "multiple", ""
	case 9:
		return draw(r, "checked", "selected"), ""
	case 10:
		return "form", draw(r, "i", "j", "")
	case 11:
		return draw(r, "id", "id", "for"), draw(r, "i", "j", "k")
	case 12:
		return draw(r, "method", "formmethod", "enctype", "formenctype"), draw(r, "post", "POST", "dialog", "get", "multipart/form-data", "multipart/form-data", "text/plain")
	case 13:
		return draw(r, "novalidate", "formnovalidate", "action", "target"), draw(r, "", "/p?q#r")
	case 14:
		return draw(r, "size", "maxlength", "minlength", "pattern"), draw(r, "1", "2", "3", "x*")
	}
	return draw(r, "class", "Class", ""), drawText(r)
}

func drawAct(r *rand.Rand, l []api.Node, node func() int) api.Act {
	a := api.Act{Kind: r.Intn(13) + 1, Node: node()}
	if r.Intn(3) > 0 {
		a.Node = of(r, l, map[int]string{api.ASubmit: "submit", api.AReset: "reset", api.AClick: "click", api.ACheck: "check", api.AWrite: "write"}[a.Kind], a.Node)
	}
	if r.Intn(60) == 0 {
		a.Kind = r.Intn(3)*14 - 14 + r.Intn(2)
	}
	switch a.Kind {
	case api.ASet, api.AUnset:
		a.Name, a.Value = drawAttr(r)
	default:
		a.Name, a.Value = draw(r, "", "n", "r"), drawText(r)
	}
	if r.Intn(200) == 0 {
		a.Value = strings.Repeat("x", 4001)
	}
	return a
}

// drawStep is one of any kind, most of which name nodes that are there.
func drawStep(r *rand.Rand, l []api.Node) step {
	node := func() int {
		if r.Intn(30) == 0 {
			return noNodes[r.Intn(len(noNodes))]
		}
		return r.Intn(len(l) + r.Intn(2))
	}
	names := []string{"insert", "insert", "remove", "set", "set", "unset", "write", "check", "custom", "listen", "listen", "listen", "type", "choose", "pick", "click", "click", "click", "click", "enter", "enter", "submit", "submit", "submit", "reset", "ask", "ask", "add"}
	p := step{name: draw(r, names...), a: node(), b: node(), c: node(), t: drawText(r), on: r.Intn(2) == 0}
	if r.Intn(3) > 0 {
		p.a = of(r, l, p.name, p.a)
	}
	switch p.name {
	case "click":
		within := slices.IndexFunc(l, func(n api.Node) bool { return n.Parent >= 0 && l[n.Parent].Name == "button" })
		if within >= 0 && r.Intn(3) == 0 {
			p.a = within
		}
	case "add":
		p.s, p.t = draw(r, "form", "input", "select", "option", "b", "label", "", "No"), draw(r, "", "", "t")
	case "insert":
		if r.Intn(2) == 0 {
			p.c = -1
		}
	case "set", "unset":
		p.s, p.t = drawAttr(r)
	case "submit":
		if r.Intn(2) == 0 {
			p.b = -1
		}
	case "listen":
		p.l = drawListener(r, l, node)
		if r.Intn(50) == 0 {
			p.l.Type = strings.Repeat("x", 21)
		}
	case "pick":
		for range r.Intn(6) - 1 {
			p.files = append(p.files, api.Entry{Name: "n", Value: drawText(r), FileName: draw(r, "", "f"), Type: draw(r, "", "t/u"), File: r.Intn(2) == 0})
		}
	}
	if r.Intn(40) == 0 {
		p.t = strings.Repeat("x", 4001)
	}
	return p
}

// drawListener is one at any node, but most of them are at the ends of what others are within.
func drawListener(r *rand.Rand, l []api.Node, node func() int) api.Listener {
	one := api.Listener{Node: node(), Type: draw(r, firedTypes...), Capture: r.Intn(3) == 0}
	if r.Intn(2) == 0 {
		one.Node = of(r, l, "submit", 0)
	} else if r.Intn(3) == 0 {
		one.Node = 0
	}
	if one.Type == "invalid" {
		one.Capture = r.Intn(4) > 0
	}
	for range r.Intn(4) {
		one.Acts = append(one.Acts, drawAct(r, l, node))
	}
	return one
}

// of is a node at which such a step may do something, or else one that was drawn.
func of(r *rand.Rand, l []api.Node, name string, other int) int {
	fits := map[string]func(kind int) bool{
		"submit": func(kind int) bool { return kind == api.KForm },
		"reset":  func(kind int) bool { return kind == api.KForm },
		"ask":    func(kind int) bool { return kind == api.KForm },
		"choose": func(kind int) bool { return kind == api.KOption },
		"pick":   func(kind int) bool { return kind == api.KFile },
		"enter":  kinds.Blocks,
		"type":   kinds.Blocks,
		"check":  func(kind int) bool { return kind == api.KRadio },
		"click":  func(kind int) bool { return acts(kind) },
		"write":  kinds.Submits,
	}[name]
	var list []int
	for id, n := range l {
		if fits != nil && fits(kinds.Of(n)) {
			list = append(list, id)
		}
	}
	if len(list) == 0 {
		return other
	}
	return list[r.Intn(len(list))]
}

// drawPage is the steps that make a page, most of which stands within a form.
func drawPage(r *rand.Rand) []step {
	var steps []step
	names := []string{"html"}
	for id := 1; id < 6+r.Intn(14); id++ {
		name := draw(r, "form", "input", "input", "input", "input", "input", "input", "select", "option", "option", "option", "optgroup", "textarea", "button", "button", "output", "fieldset", "fieldset", "legend", "label", "label", "datalist", "div", "div", "")
		text := ""
		if id == 1 {
			name = "form"
		}
		if name == "" {
			text = drawText(r)
		}
		steps = append(steps, step{name: "add", s: name, t: text})
		for range r.Intn(4) {
			p := step{name: "set", a: id}
			p.s, p.t = drawAttr(r)
			steps = append(steps, p)
		}
		if name == "form" && r.Intn(3) == 0 {
			steps = append(steps, step{name: "set", a: id, s: "method", t: "post"}, step{name: "set", a: id, s: "enctype", t: "multipart/form-data"})
		}
		steps = append(steps, step{name: "insert", a: drawParent(r, names, name), b: id, c: -1})
		names = append(names, name)
	}
	return steps
}

// drawParent is any node for one of that name; options go to selects, and what is no control to buttons, if there are any, and others to the first form more often than not.
func drawParent(r *rand.Rand, names []string, name string) int {
	parent := r.Intn(len(names))
	if name == "option" {
		for try := 0; try < 20 && names[parent] != "select" && names[parent] != "optgroup"; try++ {
			parent = r.Intn(len(names))
		}
		return parent
	}
	if name == "div" && slices.Contains(names, "button") {
		return slices.Index(names, "button")
	}
	if len(names) == 1 {
		return 0
	}
	if names[parent] == "" || r.Intn(2) == 0 {
		return 1
	}
	return parent
}

// checkSettled holds what is so behind each step.
func checkSettled(t *testing.T, w *World) {
	t.Helper()
	d := w.Doc()
	if !option.Right(d) || !group.One(d) {
		t.Errorf("the document isn't right, or two of a group are checked: %v", d)
	}
	for id, n := range d.Nodes {
		k := kinds.Of(n)
		if v := d.Ctls[id].Value; clean.Value(k, n.Attrs, v) != v {
			t.Errorf("the value %q of %v is one that it doesn't leave", v, n)
		}
		if _, multiple := tree.Attr(d.Nodes, id, "multiple"); k != api.KSelect || multiple {
			continue
		}
		selected, choosable := 0, 0
		for _, opt := range option.List(d.Nodes, id) {
			if d.Ctls[opt].Selected {
				selected++
			}
			if !option.Off(d.Nodes, opt) {
				choosable++
			}
		}
		if selected > 1 || selected == 0 && choosable > 0 && option.Size(d.Nodes, id) == 1 {
			t.Errorf("of %d options of %d that may be chosen %d are selected", choosable, id, selected)
		}
	}
}

// TestP25_6Drawn holds drawn worlds, step by step, against the chapter's words, and what is so behind each step.
func TestP25_6Drawn(t *testing.T) {
	counts := map[string]int{}
	errors := map[string]int{}
	for seed := range int64(3000) {
		r := rand.New(rand.NewSource(seed))
		draws := [][]string{nil, {"b1"}, {"b1", "b2"}}[r.Intn(3)]
		w, s := New(draws), newSlow(draws)
		steps := drawPage(r)
		for i := range len(steps) + 40 {
			p := drawStep(r, s.d.Nodes)
			if i < len(steps) {
				p = steps[i]
			}
			ahead := look(w)
			got, e := p.do(w)
			want, wantE := p.slowly(s)
			if got != want || e != wantE {
				t.Fatalf("seed %d, step %d: %+v answers %d, %d, not %d, %d", seed, i, p, got, e, want, wantE)
			}
			now := look(w)
			if !reflect.DeepEqual(now.doc, fitted(s.d)) || !slices.Equal(now.log, s.log) || !slices.Equal(now.plans, s.plans) {
				t.Fatalf("seed %d, step %d: %+v makes\n%+v\n%v, not\n%+v\n%v", seed, i, p, now.doc, now.log[len(ahead.log):], s.d, s.log[len(ahead.log):])
			}
			errors[p.name+" "+strconv.Itoa(int(e))]++
			if e != api.OK && !reflect.DeepEqual(now, ahead) {
				t.Fatalf("seed %d, step %d: %+v, which answers %d, changes %+v into %+v", seed, i, p, e, ahead, now)
			}
			if s.fired > 30 {
				t.Fatalf("seed %d, step %d: %d events", seed, i, s.fired)
			}
			checkSettled(t, w)
		}
		for what, n := range s.counts {
			counts[what] += n
		}
	}
	checkMet(t, counts, errors)
}

// fitted tells lists of nothing as nil.
func fitted(d api.Doc) api.Doc {
	var nodes []api.Node
	for _, n := range d.Nodes {
		n.Kids, n.Attrs = append([]int(nil), n.Kids...), append([]api.Attr(nil), n.Attrs...)
		nodes = append(nodes, n)
	}
	return api.Doc{Nodes: nodes, Ctls: d.Ctls}
}

// checkMet holds that each case was met often enough to tell something.
func checkMet(t *testing.T, counts, errors map[string]int) {
	t.Helper()
	for _, what := range append(firedTypes, "refused", "guard", "bound", "plan", "attribute refused", "kept", "cut", "appended", "prevented click", "prevented submit", "prevented reset", "prevented invalid", "turned back", "not clicked", "disabled actor", "label", "guard by submit", "guard by asked", "guard by building", "guard by reset", "enter clicks", "enter submits") {
		if counts[what] < 20 {
			t.Errorf("%s was met %d times", what, counts[what])
		}
	}
	for what, list := range map[string][]int{
		"add": {0, 2, 7}, "insert": {0, 4, 5}, "remove": {0, 4, 8}, "set": {0, 2, 3, 4, 7}, "unset": {0, 3, 4}, "write": {0, 2, 3, 4, 8}, "check": {0, 3, 4}, "custom": {0, 2, 3, 4},
		"listen": {0, 2, 3, 4}, "type": {0, 2, 3, 4, 8}, "choose": {0, 4, 8}, "pick": {0, 2, 3, 4, 8}, "click": {0, 3, 4, 8}, "enter": {0, 4, 8}, "submit": {0, 3, 4}, "reset": {0, 3, 4}, "ask": {0, 3, 4},
	} {
		for _, e := range list {
			if n := errors[what+" "+strconv.Itoa(e)]; n < 8 {
				t.Errorf("%s answered %d %d times", what, e, n)
			}
		}
	}
}
