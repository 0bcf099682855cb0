package group

import (
	"math"
	"math/rand"
	"reflect"
	"slices"
	"strconv"
	"strings"
	"testing"
	"unsafe"

	"counterfoil/api"
	"counterfoil/kinds"
	"counterfoil/owner"
	"counterfoil/tree"
)

// noNodes are numbers that no document's nodes have, such among them as would be one if they were cut.
var noNodes = []int{-1, -2, -400, api.MaxNodes, api.MaxNodes + 1, 1 << 16, 1 << 31, -1 << 31, 1 << 32, 1<<32 + 2, -1<<32 + 2, math.MaxInt, math.MinInt, math.MinInt + 2}

// inputTypes are all that an input may have, in the order of their kinds, and one that isn't known.
var inputTypes = []string{"hidden", "text", "search", "tel", "url", "email", "password", "date", "month", "week", "time", "datetime-local", "number", "range", "color", "checkbox", "radio", "file", "submit", "image", "reset", "button", "nothing"}

// part is a node with what is within it; a text, if its name is empty.
type part struct {
	name, text string
	attrs      []api.Attr
	kids       []part
}

// el is an element with attributes told as "name=value", or "name" alone, with blanks between.
func el(name, attrs string, kids ...part) part {
	p := part{name: name, kids: kids}
	for _, a := range strings.Fields(attrs) {
		n, v, _ := strings.Cut(a, "=")
		p.attrs = append(p.attrs, api.Attr{Name: n, Value: v})
	}
	return p
}

func radio(attrs string, kids ...part) part { return el("input", "type=radio "+attrs, kids...) }

// named is a radio button whose name may hold anything.
func named(name string) part {
	return part{name: "input", attrs: []api.Attr{{Name: "name", Value: name}, {Name: "type", Value: "radio"}}}
}

func txt(s string) part { return part{text: s} }

// put numbers the parts in order, from len(l) on.
func put(l []api.Node, p part, parent int) []api.Node {
	id := len(l)
	l = append(l, api.Node{Name: p.name, Text: p.text, Attrs: p.attrs, Parent: parent})
	for _, kid := range p.kids {
		l[id].Kids = append(l[id].Kids, len(l))
		l = put(l, kid, id)
	}
	return l
}

// nodes is a document of trees that stand apart; node 0 is the first one's top.
func nodes(trees ...part) []api.Node {
	var l []api.Node
	for _, p := range trees {
		l = put(l, p, -1)
	}
	return l
}

// doc has states that begin as nothing, but that the nodes of on are Checked.
func doc(l []api.Node, on ...int) api.Doc {
	d := api.Doc{Nodes: l, Ctls: make([]api.Ctl, len(l))}
	for _, id := range on {
		d.Ctls[id].Checked = true
	}
	return d
}

func ticked(l []api.Ctl) []int {
	return places(l, func(c api.Ctl) bool { return c.Checked })
}

func dirty(l []api.Ctl) []int {
	return places(l, func(c api.Ctl) bool { return c.DirtyChecked })
}

func places(l []api.Ctl, holds func(c api.Ctl) bool) []int {
	var out []int
	for i, c := range l {
		if holds(c) {
			out = append(out, i)
		}
	}
	return out
}

// plain is l with nil for lists of nothing.
func plain(l []api.Ctl) []api.Ctl {
	own := append([]api.Ctl(nil), l...)
	for i := range own {
		own[i].Files = append([]api.Entry(nil), own[i].Files...)
	}
	return own
}

func same(a, b []api.Ctl) bool { return reflect.DeepEqual(plain(a), plain(b)) }

// fullState has something in each field.
func fullState() api.Ctl {
	return api.Ctl{Value: "v", Dirty: true, Typed: true, Checked: true, DirtyChecked: true, Mixed: true, Selected: true, DirtySelected: true, Custom: "c", Files: []api.Entry{{Name: "n"}}}
}

// family is a form f (1) with a radio button a (2), a checkbox a (3) and, deeper, another radio button a (5); beside it three that stand in no form, or tell it (6, 7, 8), two without a name (9, 10), and one named b (11); apart from it one (12), and two in one tree (14, 15).
func family() []api.Node {
	return nodes(
		el("html", "",
			el("form", "id=f", radio("name=a"), el("input", "type=checkbox name=a"), el("div", "", radio("name=a"))),
			radio("name=a"), radio("name=a form=f"), radio("name=a form=x"), radio(""), radio("name="), radio("name=b form=f")),
		radio("name=a"),
		el("div", "", radio("name=a form=f"), radio("name=a")))
}

// familyGroups are the groups of family's nodes.
var familyGroups = [][]int{{2, 5, 7}, {6, 8}, {9}, {10}, {11}, {12}, {14, 15}}

// The chapter's words once more: each radio button is held against each other one, and each thing is asked of the layers below.

func slowRight(d api.Doc) bool { return tree.Right(d.Nodes) && len(d.Ctls) == len(d.Nodes) }

func slowKind(l []api.Node, id int) int {
	if !tree.Right(l) || id < 0 || id >= len(l) {
		return api.KNone
	}
	return kinds.Of(l[id])
}

func slowMembers(l []api.Node, id int) []int {
	if slowKind(l, id) != api.KRadio {
		return nil
	}
	name, _ := tree.Attr(l, id, "name")
	if name == "" {
		return []int{id}
	}
	return slices.DeleteFunc(tree.Order(l, tree.Top(l, id)), func(other int) bool {
		theirs, _ := tree.Attr(l, other, "name")
		return slowKind(l, other) != api.KRadio || theirs != name || owner.Form(l, other) != owner.Form(l, id)
	})
}

func slowCheck(d api.Doc, id int, on bool) ([]api.Ctl, api.Errno) {
	if !slowRight(d) || id < 0 || id >= len(d.Nodes) {
		return nil, api.ErrNode
	}
	kind := slowKind(d.Nodes, id)
	if kind != api.KRadio && kind != api.KCheckbox {
		return nil, api.ErrKind
	}
	own := slices.Clone(d.Ctls)
	own[id].Checked, own[id].DirtyChecked = on, true
	for other := range d.Nodes {
		if on && other != id && slices.Contains(slowMembers(d.Nodes, other), id) {
			own[other].Checked = false
		}
	}
	return own, api.OK
}

// slowSettle takes the mark from each one behind which another of its group has one.
func slowSettle(d api.Doc) []api.Ctl {
	if !slowRight(d) {
		return nil
	}
	own := slices.Clone(d.Ctls)
	for id := range d.Nodes {
		all := slowMembers(d.Nodes, id)
		behind := all[slices.Index(all, id)+1:]
		if slices.ContainsFunc(behind, func(other int) bool { return d.Ctls[other].Checked }) {
			own[id].Checked = false
		}
	}
	return own
}

func slowOne(d api.Doc) bool {
	if !slowRight(d) {
		return false
	}
	for id := range d.Nodes {
		for _, other := range slowMembers(d.Nodes, id) {
			if other != id && d.Ctls[id].Checked && d.Ctls[other].Checked {
				return false
			}
		}
	}
	return true
}

// drawAttrs draws of the attributes that tell anything, and of some that only look like them.
func drawAttrs(r *rand.Rand) []api.Attr {
	var out []api.Attr
	add := func(odds int, name string, values ...string) {
		if r.Intn(odds) == 0 {
			out = append(out, api.Attr{Name: name, Value: values[r.Intn(len(values))]})
		}
	}
	add(3, "id", "", "f", "g")
	add(6, "form", "", "f", "g", "x")
	if r.Intn(8) > 0 {
		add(1, "name", "a", "a", "a", "a", "a", "a", "a", "b", "b", "A", "a ", "")
	}
	if r.Intn(8) > 0 {
		add(1, "type", "radio", "radio", "radio", "radio", "radio", "RaDiO", "checkbox", "text", "radio ")
	}
	add(8, "disabled", "")
	add(8, "checked", "")
	r.Shuffle(len(out), func(i, j int) { out[i], out[j] = out[j], out[i] })
	return out
}

// drawDoc puts nodes into one another in any way, by layer 10, so that their numbers don't stand in order, and some stand apart.
func drawDoc(r *rand.Rand) api.Doc {
	names := []string{"input", "input", "input", "input", "input", "input", "input", "input", "form", "form", "div", "button", "select", "fieldset", ""}
	l := []api.Node{{Name: names[r.Intn(len(names)-1)], Parent: -1, Attrs: drawAttrs(r)}}
	for n := r.Intn(20); n > 0; n-- {
		name := names[r.Intn(len(names))]
		l, _, _ = tree.Add(l, name, "")
		if name != "" {
			l[len(l)-1].Attrs = drawAttrs(r)
		}
	}
	for n := (1 + r.Intn(4)) * len(l); n > 0; n-- {
		if next, e := tree.Insert(l, r.Intn(len(l)), r.Intn(len(l)), -1); e == api.OK {
			l = next
		}
	}
	return api.Doc{Nodes: l, Ctls: drawStates(r, len(l))}
}

func drawStates(r *rand.Rand, n int) []api.Ctl {
	out := make([]api.Ctl, n)
	few := 1 + r.Intn(4)
	for i := range out {
		c := &out[i]
		for _, f := range []*bool{&c.Dirty, &c.Typed, &c.Checked, &c.DirtyChecked, &c.Mixed, &c.Selected, &c.DirtySelected} {
			*f = r.Intn(few) == 0
		}
		c.Value, c.Custom = []string{"", "v", "a"}[r.Intn(3)], []string{"", "c"}[r.Intn(2)]
		if r.Intn(4) == 0 {
			c.Files = []api.Entry{{Name: "n", Value: "v", File: true, FileName: "f", Type: "t"}, {Value: strconv.Itoa(i)}}[:r.Intn(3)]
		}
	}
	return out
}

// eachDrawn calls f with documents that are drawn, always the same ones.
func eachDrawn(n int, f func(d api.Doc)) {
	r := rand.New(rand.NewSource(17))
	for range n {
		f(drawDoc(r))
	}
}

// eachNode calls f with all nodes of those documents, and with some that aren't there.
func eachNode(n int, f func(d api.Doc, id int)) {
	turn := 0
	eachDrawn(n, func(d api.Doc) {
		for id := range d.Nodes {
			f(d, id)
		}
		f(d, len(d.Nodes))
		f(d, noNodes[turn%len(noNodes)])
		turn++
	})
}

// wrong are documents that aren't right, but otherwise as family is; 2 and 5, which are of one group, are Checked.
func wrong() []api.Doc {
	var out []api.Doc
	add := func(change func(d *api.Doc)) {
		d := doc(family(), 2, 5)
		change(&d)
		out = append(out, d)
	}
	at := func(id int, change func(n *api.Node)) {
		add(func(d *api.Doc) { change(&d.Nodes[id]) })
	}
	add(func(d *api.Doc) { d.Nodes = nil })
	add(func(d *api.Doc) { *d = api.Doc{} })
	add(func(d *api.Doc) { d.Nodes, d.Ctls = d.Nodes[:15], d.Ctls[:15] })
	add(func(d *api.Doc) { d.Nodes, d.Ctls = d.Nodes[1:], d.Ctls[1:] })
	at(0, func(n *api.Node) { n.Name = "" })
	at(0, func(n *api.Node) { n.Name = "HTML" })
	at(0, func(n *api.Node) { n.Text = "x" })
	at(0, func(n *api.Node) { n.Parent = 1 })
	at(0, func(n *api.Node) { n.Parent = 0 })
	at(0, func(n *api.Node) { n.Kids = n.Kids[:2] })
	at(1, func(n *api.Node) { n.Kids[0] = 99 })
	at(1, func(n *api.Node) { n.Kids[0] = -1 })
	at(1, func(n *api.Node) { n.Kids[0] = n.Kids[1] })
	at(2, func(n *api.Node) { n.Parent = 77 })
	at(2, func(n *api.Node) { n.Parent = -7 })
	at(2, func(n *api.Node) { n.Parent = 2 })
	at(2, func(n *api.Node) { n.Attrs = append(n.Attrs, api.Attr{Name: "name", Value: "b"}) })
	at(3, func(n *api.Node) { n.Attrs = append(n.Attrs, api.Attr{Name: "Name"}) })
	at(6, func(n *api.Node) { n.Attrs[1].Value = strings.Repeat("x", api.MaxText+1) })
	at(5, func(n *api.Node) { n.Text = "x" })
	at(12, func(n *api.Node) { n.Parent = -2 })
	add(func(d *api.Doc) { // two that stand within each other
		d.Nodes[4].Parent, d.Nodes[5].Kids = 5, []int{4}
		d.Nodes[1].Kids = d.Nodes[1].Kids[:2]
	})
	add(func(d *api.Doc) {
		for len(d.Nodes) <= api.MaxNodes {
			d.Nodes, d.Ctls = append(d.Nodes, api.Node{Name: "input", Parent: -1}), append(d.Ctls, api.Ctl{})
		}
	})
	return out
}

// short are documents whose nodes alone are right.
func short() []api.Doc {
	l := family()
	return []api.Doc{{Nodes: l}, {Nodes: l, Ctls: make([]api.Ctl, len(l)-1)}, {Nodes: l, Ctls: make([]api.Ctl, len(l)+1)}, {Nodes: l, Ctls: make([]api.Ctl, 0, len(l))}}
}

// checkNoStates asks the calls of a document that isn't right.
func checkNoStates(t *testing.T, what string, d api.Doc, ids []int) {
	t.Helper()
	if got := Settle(d); got != nil {
		t.Errorf("%s: Settle is %+v", what, got)
	}
	if One(d) {
		t.Errorf("%s: One is true", what)
	}
	for _, id := range ids {
		for _, on := range []bool{true, false} {
			if got, e := Check(d, id, on); got != nil || e != api.ErrNode {
				t.Errorf("%s: Check of %d is %+v (%v)", what, id, got, e)
			}
		}
	}
}

func TestP17_1_Wrong(t *testing.T) {
	for i, d := range wrong() {
		for _, id := range append(noNodes, 0, 2, 5, 6, 9, 12, 14, 15, 16) {
			if got := Members(d.Nodes, id); got != nil {
				t.Errorf("wrong document %d: Members of %d is %v", i, id, got)
			}
		}
	}
	for _, id := range append(noNodes, len(family())) {
		if got := Members(family(), id); got != nil {
			t.Errorf("Members of %d is %v", id, got)
		}
	}
}

func TestP17_2_Wrong(t *testing.T) {
	for i, d := range slices.Concat(wrong(), short()) {
		checkNoStates(t, "wrong document "+strconv.Itoa(i), d, append(noNodes, 0, 2, 3, 5, 9, 12, 15, 16))
	}
	d := doc(family(), 2)
	for _, id := range append(noNodes, len(d.Nodes)) {
		for _, on := range []bool{true, false} {
			if got, e := Check(d, id, on); got != nil || e != api.ErrNode {
				t.Errorf("Check of %d is %+v (%v)", id, got, e)
			}
		}
	}
}

func TestP17_1(t *testing.T) {
	l := family()
	for id := range l {
		var want []int
		for _, g := range familyGroups {
			if slices.Contains(g, id) {
				want = g
			}
		}
		if got := Members(l, id); !slices.Equal(got, want) {
			t.Errorf("Members of %d is %v, not %v", id, got, want)
		}
	}
	for _, c := range []struct {
		why  string
		l    []api.Node
		id   int
		want []int
	}{
		{"alone", nodes(radio("name=a")), 0, []int{0}},
		{"alone, without a name", nodes(radio("")), 0, []int{0}},
		{"within another one", nodes(radio("name=a", radio("name=a"), radio(""))), 1, []int{0, 1}},
		{"another name", nodes(el("html", "", radio("name=a"), radio("name=b"))), 1, []int{1}},
		{"a name without regard to capitals", nodes(el("html", "", radio("name=a"), radio("name=A"))), 1, []int{1}},
		{"a name with a blank", nodes(el("html", "", named("a"), named("a "), named(" a"), named("a"))), 4, []int{1, 4}},
		{"a name that is a blank", nodes(el("html", "", named(" "), named(" "), named("\t"))), 1, []int{1, 2}},
		{"a name that is no UTF-8", nodes(el("html", "", named("\xff"), named("\xfe"), named("\ufffd"), named("\xff"))), 1, []int{1, 4}},
		{"a name like a number", nodes(el("html", "", named("1"), named(""), named("1"))), 1, []int{1, 3}},
		{"no name, beside an empty one", nodes(el("html", "", radio(""), radio("name"), radio(""))), 1, []int{1}},
		{"an empty name, beside another one", nodes(el("html", "", radio("name"), radio("name="))), 1, []int{1}},
		{"an id is no name", nodes(el("html", "", radio("id=a"), radio("name=a"), radio("id=a"))), 1, []int{1}},
		{"a value is no name", nodes(el("html", "", radio("name=a value=x"), radio("name=a value=y"))), 1, []int{1, 2}},
		{"disabled", nodes(el("html", "", radio("name=a disabled"), el("fieldset", "disabled", radio("name=a")), radio("name=a"))), 4, []int{1, 3, 4}},
		{"capitals of the type", nodes(el("html", "", el("input", "type=RADIO name=a"), radio("name=a"))), 1, []int{1, 2}},
		{"two forms", nodes(el("html", "", el("form", "", radio("name=a")), el("form", "", radio("name=a")))), 2, []int{2}},
		{"two forms, of which one is within the other", nodes(el("form", "", radio("name=a"), el("form", "", radio("name=a")), radio("name=a"))), 4, []int{1, 4}},
		{"a form apart from none", nodes(el("html", "", radio("name=a"), el("form", "", radio("name=a")), radio("name=a"))), 1, []int{1, 4}},
		{"the form is node 0", nodes(el("form", "", radio("name=a")), radio("name=a")), 1, []int{1}},
		{"the form is node 0, which it tells", nodes(el("form", "id=f", radio("name=a"), el("form", "", radio("name=a form=f"), radio("name=a")))), 1, []int{1, 3}},
		{"the form is told, ahead of it", nodes(el("html", "", radio("name=a form=f"), el("form", "id=f", radio("name=a")))), 3, []int{1, 3}},
		{"the form is told, and no form", nodes(el("html", "", el("form", "", radio("name=a form=d"), radio("name=a")), el("div", "id=d"), radio("name=a"))), 2, []int{2, 5}},
		{"no form, in trees apart", nodes(el("html", "", radio("name=a")), el("div", "", radio("name=a"), radio("name=a")), radio("name=a")), 3, []int{3, 4}},
		{"no form, in node 0's tree", nodes(el("html", "", radio("name=a")), el("div", "", radio("name=a"))), 1, []int{1}},
		{"a form apart, and what tells it", nodes(el("html", "", radio("name=a form=f")), el("form", "id=f", radio("name=a"), radio("name=a form=x"))), 3, []int{3, 4}},
		{"texts between", nodes(el("html", "", radio("name=a"), txt("radio"), radio("name=a"))), 3, []int{1, 3}},
	} {
		for _, id := range c.want {
			if got := Members(c.l, id); !slices.Equal(got, c.want) {
				t.Errorf("%s: Members of %d is %v, not %v", c.why, id, got, c.want)
			}
		}
		if !slices.Contains(c.want, c.id) {
			t.Errorf("%s: %d is not among %v", c.why, c.id, c.want)
		}
	}
	turned := []api.Node{{Name: "html", Parent: -1, Kids: []int{4, 2, 1}}, nodes(radio("name=a"))[0], {Name: "div", Kids: []int{3}}, nodes(radio("name=a"))[0], nodes(radio("name=a"))[0]}
	turned[1].Parent, turned[3].Parent, turned[4].Parent = 0, 2, 0
	if got := Members(turned, 1); !slices.Equal(got, []int{4, 3, 1}) {
		t.Errorf("Members isn't in order: %v", got)
	}
}

// TestP17_1_Kinds asks a node of each kind, beside a radio button of the same name.
func TestP17_1_Kinds(t *testing.T) {
	parts := []part{radio("name=a")}
	for _, kind := range inputTypes {
		parts = append(parts, el("input", "name=a type="+kind))
	}
	for _, name := range []string{"input", "button", "select", "textarea", "output", "fieldset", "form", "label", "option", "optgroup", "legend", "datalist", "div", "radio", "inputs"} {
		parts = append(parts, el(name, "name=a"), el(name+"s", "name=a type=radio"))
	}
	parts = append(parts, el("button", "name=a type=radio"), txt("radio"))
	l := nodes(el("html", "name=a", parts...))
	for id := range l {
		var want []int
		if l[id].Name == "input" && slices.Contains(l[id].Attrs, api.Attr{Name: "type", Value: "radio"}) {
			want = []int{1, 18}
		}
		if got := Members(l, id); !slices.Equal(got, want) {
			t.Errorf("Members of %d, %+v, is %v, not %v", id, l[id], got, want)
		}
		got, e := Check(doc(l), id, true)
		switch isBox := l[id].Name == "input" && slices.Contains(l[id].Attrs, api.Attr{Name: "type", Value: "checkbox"}); {
		case want != nil || isBox:
			if e != api.OK || !slices.Equal(ticked(got), []int{id}) {
				t.Errorf("Check of %d, %+v, is %v (%v)", id, l[id], ticked(got), e)
			}
		case got != nil || e != api.ErrKind:
			t.Errorf("Check of %d, %+v, is %v (%v)", id, l[id], got, e)
		}
	}
}

func TestP17_1_Drawn(t *testing.T) {
	several, turned := 0, 0
	eachNode(4000, func(d api.Doc, id int) {
		got, want := Members(d.Nodes, id), slowMembers(d.Nodes, id)
		if !slices.Equal(got, want) {
			t.Fatalf("Members of %d of %+v is %v, not %v", id, d.Nodes, got, want)
		}
		if len(want) > 1 {
			several++
		}
		if len(want) > 1 && !slices.IsSorted(want) {
			turned++
		}
	})
	if several < 2000 || turned < 500 {
		t.Errorf("only %d of groups of several were drawn, %d of which don't stand by their numbers", several, turned)
	}
}

func TestP17_2(t *testing.T) {
	for _, c := range []struct {
		was   []int
		id    int
		on    bool
		want  []int
		errno api.Errno
	}{
		{nil, 2, true, []int{2}, api.OK}, {nil, 2, false, nil, api.OK},
		{[]int{5}, 2, true, []int{2}, api.OK}, {[]int{2}, 5, true, []int{5}, api.OK}, {[]int{2}, 7, true, []int{7}, api.OK}, {[]int{2}, 2, true, []int{2}, api.OK},
		{[]int{2}, 2, false, nil, api.OK}, {[]int{2}, 5, false, []int{2}, api.OK}, {[]int{2, 5, 7}, 5, false, []int{2, 7}, api.OK}, {[]int{2, 5, 7}, 5, true, []int{5}, api.OK},
		{[]int{2, 3, 6, 8, 9, 10, 11, 12, 14, 15}, 5, true, []int{3, 5, 6, 8, 9, 10, 11, 12, 14, 15}, api.OK},
		{[]int{2, 6, 12, 14}, 8, true, []int{2, 8, 12, 14}, api.OK}, {[]int{2, 6, 12, 14}, 15, true, []int{2, 6, 12, 15}, api.OK}, {[]int{2, 6, 14}, 12, true, []int{2, 6, 12, 14}, api.OK},
		{[]int{10}, 9, true, []int{9, 10}, api.OK}, {[]int{9}, 10, true, []int{9, 10}, api.OK}, {[]int{9, 10}, 10, false, []int{9}, api.OK}, {[]int{2}, 11, true, []int{2, 11}, api.OK},
		{[]int{2, 5}, 3, true, []int{2, 3, 5}, api.OK}, {[]int{2, 3}, 3, false, []int{2}, api.OK}, {[]int{3}, 2, true, []int{2, 3}, api.OK}, {nil, 3, true, []int{3}, api.OK},
		{[]int{0, 1, 4, 13}, 2, true, []int{0, 1, 2, 4, 13}, api.OK},
		{[]int{0}, 0, true, nil, api.ErrKind}, {nil, 1, true, nil, api.ErrKind}, {nil, 1, false, nil, api.ErrKind}, {nil, 4, true, nil, api.ErrKind}, {[]int{13}, 13, false, nil, api.ErrKind},
	} {
		got, e := Check(doc(family(), c.was...), c.id, c.on)
		var changed []int
		if c.errno == api.OK {
			changed = []int{c.id}
		}
		if e != c.errno || !slices.Equal(ticked(got), c.want) || !slices.Equal(dirty(got), changed) || e != api.OK && got != nil {
			t.Errorf("Check of %d, %v, with %v: %v are checked, %v changed (%v), not %v (%v)", c.id, c.on, c.was, ticked(got), dirty(got), e, c.want, c.errno)
		}
	}
}

// TestP17_2_Others holds that nothing but Checked and DirtyChecked is changed, and DirtyChecked of the one alone.
func TestP17_2_Others(t *testing.T) {
	full := fullState()
	off, calm, calmOff := full, full, full
	off.Checked, calm.DirtyChecked, calmOff.Checked, calmOff.DirtyChecked = false, false, false, false
	l := nodes(el("html", "", radio("name=a"), radio("name=a"), el("input", "type=checkbox name=a")))
	d := api.Doc{Nodes: l, Ctls: []api.Ctl{full, full, calm, calm}}
	if got, e := Check(d, 2, true); e != api.OK || !same(got, []api.Ctl{full, off, full, calm}) {
		t.Errorf("Check is %+v (%v)", got, e)
	}
	if got, e := Check(d, 1, true); e != api.OK || !same(got, []api.Ctl{full, full, calmOff, calm}) {
		t.Errorf("Check is %+v (%v)", got, e)
	}
	if got, e := Check(d, 2, false); e != api.OK || !same(got, []api.Ctl{full, full, off, calm}) {
		t.Errorf("Check is %+v (%v)", got, e)
	}
	if got, e := Check(d, 3, false); e != api.OK || !same(got, []api.Ctl{full, full, calm, off}) {
		t.Errorf("Check is %+v (%v)", got, e)
	}
}

func TestP17_2_Drawn(t *testing.T) {
	eachNode(3000, func(d api.Doc, id int) {
		for _, on := range []bool{true, false} {
			got, e := Check(d, id, on)
			if want, f := slowCheck(d, id, on); e != f || !same(got, want) || e != api.OK && got != nil {
				t.Fatalf("Check of %d, %v, of %+v is %+v (%v), not %+v (%v)", id, on, d, got, e, want, f)
			}
		}
	})
}

func TestP17_3(t *testing.T) {
	for _, c := range []struct{ was, want []int }{
		{nil, nil}, {[]int{2}, []int{2}}, {[]int{7}, []int{7}}, {[]int{2, 5}, []int{5}}, {[]int{2, 7}, []int{7}}, {[]int{2, 5, 7}, []int{7}},
		{[]int{6, 8}, []int{8}}, {[]int{14, 15}, []int{15}}, {[]int{9, 10}, []int{9, 10}}, {[]int{2, 6, 12, 14}, []int{2, 6, 12, 14}}, {[]int{5, 11}, []int{5, 11}},
		{[]int{0, 1, 3, 4, 13}, []int{0, 1, 3, 4, 13}}, {[]int{2, 3}, []int{2, 3}},
		{[]int{0, 1, 2, 3, 4, 5, 6, 7, 8, 9, 10, 11, 12, 13, 14, 15}, []int{0, 1, 3, 4, 7, 8, 9, 10, 11, 12, 13, 15}},
	} {
		d := doc(family(), c.was...)
		for i := range d.Ctls {
			d.Ctls[i].DirtyChecked = i%2 == 0
		}
		got := Settle(d)
		if !slices.Equal(ticked(got), c.want) || !slices.Equal(dirty(got), dirty(d.Ctls)) {
			t.Errorf("Settle with %v: %v are checked, not %v; %v are changed", c.was, ticked(got), c.want, dirty(got))
		}
		if one := slices.Equal(c.was, c.want); One(d) != one {
			t.Errorf("One with %v is %v", c.was, !one)
		}
	}
	turned := doc([]api.Node{{Name: "html", Parent: -1, Kids: []int{3, 1, 2}}, nodes(radio("name=a"))[0], nodes(radio("name=a"))[0], nodes(radio("name=a"))[0]}, 1, 3)
	for id := 1; id <= 3; id++ {
		turned.Nodes[id].Parent = 0
	}
	if got := Settle(turned); !slices.Equal(ticked(got), []int{1}) {
		t.Errorf("the last in order isn't checked, but %v", ticked(got))
	}
	boxes := doc(nodes(el("html", "", el("input", "type=checkbox name=a"), el("input", "type=checkbox name=a"), el("input", "name=a"), el("input", "name=a"))), 1, 2, 3, 4)
	if got := Settle(boxes); !same(got, boxes.Ctls) || !One(boxes) {
		t.Errorf("of what are no radio buttons %v are left", ticked(got))
	}
	full := fullState()
	off := full
	off.Checked = false
	two := api.Doc{Nodes: nodes(el("html", "", radio("name=a"), radio("name=a"))), Ctls: []api.Ctl{full, full, full}}
	if got := Settle(two); !same(got, []api.Ctl{full, off, full}) {
		t.Errorf("Settle is %+v", got)
	}
	eachDrawn(4000, func(d api.Doc) {
		if got, want := Settle(d), slowSettle(d); !same(got, want) {
			t.Fatalf("Settle of %+v is %+v, not %+v", d, got, want)
		}
	})
}

func TestP17_3_Wrong(t *testing.T) {
	for i, d := range slices.Concat(wrong(), short()) {
		checkNoStates(t, "wrong document "+strconv.Itoa(i), d, nil)
	}
}

func TestP17_4(t *testing.T) {
	l := family()
	if !One(doc(l)) || !One(doc(l, 2, 3, 6, 9, 10, 11, 12, 14)) {
		t.Error("one of each group is too many")
	}
	for _, on := range [][]int{{2, 5}, {2, 7}, {5, 7}, {2, 5, 7}, {6, 8}, {14, 15}, {2, 6, 9, 12, 14, 15}} {
		if One(doc(l, on...)) {
			t.Errorf("One is true with %v", on)
		}
	}
	held, settled := 0, 0
	eachDrawn(3000, func(d api.Doc) {
		was := One(d)
		if was != slowOne(d) {
			t.Fatalf("One of %+v is %v", d, was)
		}
		own := Settle(d)
		after := api.Doc{Nodes: d.Nodes, Ctls: own}
		if !One(after) || !same(Settle(after), own) || was && !same(own, d.Ctls) {
			t.Fatalf("Settle of %+v is %+v", d, own)
		}
		if !was {
			settled++
		}
		for id := range d.Nodes {
			for _, on := range []bool{true, false} {
				own, e := Check(after, id, on)
				if e == api.OK && !One(api.Doc{Nodes: d.Nodes, Ctls: own}) {
					t.Fatalf("One isn't so behind Check of %d, %v, of %+v", id, on, after)
				}
				if e == api.OK {
					held++
				}
			}
		}
	})
	if held < 5000 || settled < 400 {
		t.Errorf("only %d checks, and %d documents that weren't settled, were drawn", held, settled)
	}
}

func TestExamples(t *testing.T) {
	d := doc(nodes(el("form", "", radio("name=a"), radio("name=a"))), 1)
	if got, e := Check(d, 2, true); e != api.OK || !slices.Equal(ticked(got), []int{2}) {
		t.Errorf("%v are checked (%v)", ticked(got), e)
	}
}

// TestR1_Most asks of as many nodes as there may be, each within the one ahead, in one group, or in none.
func TestR1_Most(t *testing.T) {
	for _, name := range []string{"a", ""} {
		p := named(name)
		for range api.MaxNodes - 1 {
			p = part{name: p.name, attrs: p.attrs, kids: []part{p}}
		}
		d := doc(nodes(p))
		for i := range d.Ctls {
			d.Ctls[i].Checked = true
		}
		want := 1
		if name == "" {
			want = api.MaxNodes
		}
		last := api.MaxNodes - 1
		if got := Members(d.Nodes, last); len(got) != api.MaxNodes+1-want || got[len(got)-1] != last {
			t.Errorf("%q: Members is %v", name, got)
		}
		if got := ticked(Settle(d)); len(got) != want || got[len(got)-1] != last || One(d) != (want > 1) {
			t.Errorf("%q: Settle leaves %v", name, got)
		}
		if got, e := Check(d, 7, true); e != api.OK || len(ticked(got)) != want || !got[7].Checked {
			t.Errorf("%q: Check leaves %v (%v)", name, ticked(got), e)
		}
	}
}

// roomy is a copy of list, with spare room behind it that is filled by more.
func roomy[T any](list []T, more ...T) []T {
	return append(slices.Clone(list), more...)[:len(list)]
}

// roomyDoc is family with spare room behind each of its lists, and with states that share their files.
func roomyDoc() api.Doc {
	d := doc(family(), 2, 5, 6, 8)
	files := roomy([]api.Entry{{Name: "name", Value: "content", File: true, FileName: "a.txt", Type: "text/plain"}, {Name: "other"}}, api.Entry{Name: "spare"})
	for i := range d.Nodes {
		d.Nodes[i].Attrs = roomy(d.Nodes[i].Attrs, api.Attr{Name: "name", Value: "spare"})
		d.Nodes[i].Kids = roomy(d.Nodes[i].Kids, 77, 78)
		d.Ctls[i].Value, d.Ctls[i].Custom, d.Ctls[i].Files = "value", "custom", files
	}
	return api.Doc{Nodes: roomy(d.Nodes, api.Node{Name: "spare"}), Ctls: roomy(d.Ctls, api.Ctl{Checked: true})}
}

// wholly is all of d, up to the ends of its spare rooms.
func wholly(d api.Doc) api.Doc {
	all := api.Doc{Nodes: slices.Clone(d.Nodes[:cap(d.Nodes)]), Ctls: slices.Clone(d.Ctls[:cap(d.Ctls)])}
	for i := range all.Nodes {
		n := &all.Nodes[i]
		n.Attrs, n.Kids = slices.Clone(n.Attrs[:cap(n.Attrs)]), slices.Clone(n.Kids[:cap(n.Kids)])
	}
	for i := range all.Ctls {
		all.Ctls[i].Files = slices.Clone(all.Ctls[i].Files[:cap(all.Ctls[i].Files)])
	}
	return all
}

func at(s string) *byte {
	if s == "" {
		return nil
	}
	return unsafe.StringData(s)
}

// memory is where the texts and the files of states lie.
func memory(l []api.Ctl) map[any]int {
	out := map[any]int{}
	for i := range l {
		for _, s := range []string{l[i].Value, l[i].Custom} {
			out[at(s)]++
		}
		for j := range l[i].Files {
			f := &l[i].Files[j]
			out[f]++
			for _, s := range []string{f.Name, f.Value, f.FileName, f.Type} {
				out[at(s)]++
			}
		}
	}
	delete(out, (*byte)(nil))
	return out
}

func TestR4_States(t *testing.T) {
	check := func(id int, on bool) func(d api.Doc) []api.Ctl {
		return func(d api.Doc) []api.Ctl { c, _ := Check(d, id, on); return c }
	}
	calls := map[string]func(d api.Doc) []api.Ctl{"Settle": Settle, "Check": check(7, true), "Check off": check(2, false), "Check of a box": check(3, true)}
	for name, call := range calls {
		d := roomyDoc()
		was := wholly(d)
		first, second := call(d), call(d)
		if len(first) != len(d.Ctls) || !reflect.DeepEqual(first, second) {
			t.Errorf("%s answers %+v, then %+v", name, first, second)
		}
		theirs := memory(slices.Concat(d.Ctls, second))
		for place, times := range memory(first) {
			if times > 1 || theirs[place] > 0 {
				t.Errorf("%s shares memory", name)
				break
			}
		}
		for i := range first {
			files := first[i].Files[:cap(first[i].Files)]
			for j := range files {
				files[j] = api.Entry{Name: "mark"}
			}
		}
		for i := range first[:cap(first)] {
			first[:cap(first)][i] = api.Ctl{Value: "mark"}
		}
		if !reflect.DeepEqual(wholly(d), was) || !reflect.DeepEqual(call(d), second) {
			t.Errorf("%s has changed what was handed in, or keeps what it answered", name)
		}
	}
}

func TestR4_Members(t *testing.T) {
	d := roomyDoc()
	was := wholly(d)
	for id := -1; id <= len(d.Nodes); id++ {
		Members(d.Nodes, id)
		Check(d, id, true)
	}
	One(d)
	first, second := Members(d.Nodes, 2), Members(d.Nodes, 5)
	for i := range first[:cap(first)] {
		first[:cap(first)][i] = -5
	}
	if want := []int{2, 5, 7}; !slices.Equal(second, want) || !slices.Equal(Members(d.Nodes, 7), want) {
		t.Errorf("Members is %v, then %v", second, Members(d.Nodes, 7))
	}
	if !reflect.DeepEqual(wholly(d), was) {
		t.Error("what was handed in is changed")
	}
}
