package owner

import (
	"math"
	"math/rand"
	"reflect"
	"slices"
	"strconv"
	"strings"
	"testing"

	"counterfoil/api"
	"counterfoil/kinds"
	"counterfoil/tree"
)

// noNodes are numbers that no document's nodes have, such among them as would be one if they were cut.
var noNodes = []int{-1, -2, -400, api.MaxNodes, api.MaxNodes + 1, 1 << 16, 1 << 31, -1 << 31, 1 << 32, 1<<32 + 1, -1<<32 + 1, math.MaxInt, math.MinInt, math.MinInt + 1}

// inputTypes are all that an input may have, in the order of their kinds, and one that isn't known.
var inputTypes = []string{"hidden", "text", "search", "tel", "url", "email", "password", "date", "month", "week", "time", "datetime-local", "number", "range", "color", "checkbox", "radio", "file", "submit", "image", "reset", "button", "nothing"}

// part is a node with what is within it; a text, if its name is empty.
type part struct {
	name, text string
	attrs      []api.Attr
	kids       []part
}

// el is an element with attributes told as "name=value", or "name" alone, with blanks between.
func el(name, attrs string, kids ...part) part {
	p := part{name: name, kids: kids}
	for _, a := range strings.Fields(attrs) {
		n, v, _ := strings.Cut(a, "=")
		p.attrs = append(p.attrs, api.Attr{Name: n, Value: v})
	}
	return p
}

func txt(s string) part { return part{text: s} }

// put numbers the parts in order, from len(l) on.
func put(l []api.Node, p part, parent int) []api.Node {
	id := len(l)
	l = append(l, api.Node{Name: p.name, Text: p.text, Attrs: p.attrs, Parent: parent})
	for _, kid := range p.kids {
		l[id].Kids = append(l[id].Kids, len(l))
		l = put(l, kid, id)
	}
	return l
}

// nodes is a document of trees that stand apart; node 0 is the first one's top.
func nodes(trees ...part) []api.Node {
	var l []api.Node
	for _, p := range trees {
		l = put(l, p, -1)
	}
	return l
}

// every is an element of each kind, a text among them, each with those attributes and type, where it has one.
func every(attrs string) []part {
	var out []part
	for _, t := range inputTypes {
		out = append(out, el("input", "type="+t+" "+attrs))
	}
	for _, t := range []string{"submit", "reset", "button", "nothing"} {
		out = append(out, el("button", "type="+t+" "+attrs))
	}
	for _, name := range []string{"input", "button", "select", "textarea", "output", "fieldset", "form", "label", "option", "optgroup", "legend", "datalist", "div", "object", "meter", "img", "inputs"} {
		out = append(out, el(name, attrs))
	}
	return append(out, txt("input"))
}

// The chapter's words once more: each thing is asked of layer 10, and the document is gone through as a whole.

func slowKind(l []api.Node, id int) int {
	if !tree.Right(l) || id < 0 || id >= len(l) {
		return api.KNone
	}
	return kinds.Of(l[id])
}

func slowHas(l []api.Node, id int, name string) bool {
	_, ok := tree.Attr(l, id, name)
	return ok
}

func slowForm(l []api.Node, id int) int {
	if k := slowKind(l, id); !kinds.Listed(k) && k != api.KImage {
		return -1
	}
	name, told := tree.Attr(l, id, "form")
	if !told || tree.Top(l, id) != 0 {
		return tree.Up(l, id, "form")
	}
	if form := tree.Named(l, name); slowKind(l, form) == api.KForm {
		return form
	}
	return -1
}

func slowOwned(l []api.Node, form int, such func(kind int) bool) []int {
	if slowKind(l, form) != api.KForm {
		return nil
	}
	var out []int
	for _, id := range tree.Order(l, tree.Top(l, form)) {
		if such(slowKind(l, id)) && slowForm(l, id) == form {
			out = append(out, id)
		}
	}
	return out
}

func slowDefault(l []api.Node, form int) int {
	return append(slowOwned(l, form, kinds.Fires), -1)[0]
}

func slowControl(l []api.Node, label int) int {
	if slowKind(l, label) != api.KLabel {
		return -1
	}
	from := tree.Order(l, label)[1:]
	if name, told := tree.Attr(l, label, "for"); told {
		from = []int{tree.Named(l, name)}
	}
	for _, id := range from {
		if kinds.Labels(slowKind(l, id)) {
			return id
		}
	}
	return -1
}

func slowDisabled(l []api.Node, id int) bool {
	switch slowKind(l, id) {
	case api.KNone, api.KOutput, api.KForm, api.KLabel, api.KOption, api.KGroup, api.KLegend, api.KList:
		return false
	}
	if slowHas(l, id, "disabled") {
		return true
	}
	for set := range l {
		if slowKind(l, set) != api.KFieldset || !slowHas(l, set, "disabled") || !slices.Contains(tree.Order(l, set)[1:], id) {
			continue
		}
		legends := slices.DeleteFunc(slices.Clone(l[set].Kids), func(kid int) bool { return slowKind(l, kid) != api.KLegend })
		if len(legends) == 0 || !slices.Contains(tree.Order(l, legends[0]), id) {
			return true
		}
	}
	return false
}

// drawAttrs draws of the attributes that tell anything, and of some that only look like them.
func drawAttrs(r *rand.Rand) []api.Attr {
	var out []api.Attr
	add := func(odds int, name string, values ...string) {
		if r.Intn(odds) == 0 {
			out = append(out, api.Attr{Name: name, Value: values[r.Intn(len(values))]})
		}
	}
	add(2, "id", "", "a", "b", "c", "d")
	add(3, "form", "", "a", "b", "c", "d", "A")
	add(3, "for", "", "a", "b", "c", "d", "B")
	add(4, "disabled", "", "false")
	add(2, "type", "submit", "SUBMIT", "image", "hidden", "reset", "button", "text", "x")
	add(8, "name", "a", "disabled")
	r.Shuffle(len(out), func(i, j int) { out[i], out[j] = out[j], out[i] })
	return out
}

// drawDoc puts nodes into one another in any way, by layer 10, so that their numbers don't stand in order, and some stand apart.
func drawDoc(r *rand.Rand) []api.Node {
	names := []string{"form", "form", "form", "fieldset", "fieldset", "legend", "legend", "input", "input", "input", "button", "button", "label", "label", "select", "textarea", "output", "div", "option", "datalist", ""}
	l := []api.Node{{Name: names[r.Intn(len(names)-1)], Parent: -1, Attrs: drawAttrs(r)}}
	for n := r.Intn(16); n > 0; n-- {
		name := names[r.Intn(len(names))]
		l, _, _ = tree.Add(l, name, "")
		if name != "" {
			l[len(l)-1].Attrs = drawAttrs(r)
		}
	}
	for n := r.Intn(3) * len(l); n > 0; n-- {
		if next, e := tree.Insert(l, r.Intn(len(l)), r.Intn(len(l)), -1); e == api.OK {
			l = next
		}
	}
	return l
}

// eachDrawn calls f with documents that are drawn, always the same ones, and with numbers of all of their nodes and of none.
func eachDrawn(n int, f func(l []api.Node, id int)) {
	r := rand.New(rand.NewSource(16))
	for range n {
		l := drawDoc(r)
		for id := range l {
			f(l, id)
		}
		f(l, noNodes[r.Intn(len(noNodes))])
		f(l, len(l))
	}
}

// family is a form f (1) with an input (2), a button (3) and a label (4) for the input, within a disabled fieldset (5) another input (6), and one apart that tells the form (7).
func family() []api.Node {
	return nodes(el("html", "", el("form", "id=f", el("input", "id=i"), el("button", ""), el("label", "for=i"), el("fieldset", "disabled", el("input", ""))), el("input", "form=f")))
}

// wrong are documents that aren't right, but otherwise as family is.
func wrong() [][]api.Node {
	var out [][]api.Node
	add := func(change func(l []api.Node) []api.Node) { out = append(out, change(family())) }
	at := func(id int, change func(n *api.Node)) {
		add(func(l []api.Node) []api.Node { change(&l[id]); return l })
	}
	add(func(l []api.Node) []api.Node { return nil })
	add(func(l []api.Node) []api.Node { return l[:0] })
	add(func(l []api.Node) []api.Node { return l[:7] })
	add(func(l []api.Node) []api.Node { return l[1:] })
	at(0, func(n *api.Node) { n.Name = "" })
	at(0, func(n *api.Node) { n.Name = "HTML" })
	at(0, func(n *api.Node) { n.Text = "x" })
	at(0, func(n *api.Node) { n.Parent = 1 })
	at(0, func(n *api.Node) { n.Parent = 0 })
	at(0, func(n *api.Node) { n.Parent = -2 })
	at(0, func(n *api.Node) { n.Kids = n.Kids[:1] })
	at(1, func(n *api.Node) { n.Kids[0] = 99 })
	at(1, func(n *api.Node) { n.Kids[0] = -1 })
	at(1, func(n *api.Node) { n.Kids[0] = n.Kids[1] })
	at(2, func(n *api.Node) { n.Parent = 77 })
	at(2, func(n *api.Node) { n.Parent = -7 })
	at(2, func(n *api.Node) { n.Parent = 2 })
	at(2, func(n *api.Node) { n.Attrs = append(n.Attrs, api.Attr{Name: "id"}) })
	at(2, func(n *api.Node) { n.Attrs[0].Name = "ID" })
	at(2, func(n *api.Node) { n.Attrs[0].Value = strings.Repeat("x", api.MaxText+1) })
	at(5, func(n *api.Node) { n.Kids = append(n.Kids, 5) })
	at(6, func(n *api.Node) { n.Text = "x" })
	add(func(l []api.Node) []api.Node { // two that stand within each other
		l[5].Parent, l[6].Kids = 6, []int{5}
		l[1].Kids = l[1].Kids[:3]
		return l
	})
	add(func(l []api.Node) []api.Node {
		for len(l) <= api.MaxNodes {
			l = append(l, api.Node{Name: "input", Parent: -1})
		}
		return l
	})
	return out
}

func checkNothing(t *testing.T, what string, l []api.Node, id int) {
	t.Helper()
	f, all, def, c, off := Form(l, id), Elements(l, id), Default(l, id), Control(l, id), Disabled(l, id)
	if f != -1 || all != nil || def != -1 || c != -1 || off {
		t.Errorf("%s, node %d: Form %d, Elements %v, Default %d, Control %d, Disabled %v", what, id, f, all, def, c, off)
	}
}

func TestP16_Wrong(t *testing.T) {
	l := family()
	if Form(l, 2) != 1 || Form(l, 7) != 1 || !slices.Equal(Elements(l, 1), []int{2, 3, 5, 6, 7}) || Default(l, 1) != 3 || Control(l, 4) != 2 || !Disabled(l, 6) {
		t.Error("what is right tells nothing")
	}
	for i, l := range wrong() {
		for _, id := range append(noNodes, 0, 1, 2, 3, 4, 5, 6, 7) {
			checkNothing(t, "wrong document "+strconv.Itoa(i), l, id)
		}
	}
}

func TestP16_NotThere(t *testing.T) {
	most := family()
	for len(most) < api.MaxNodes {
		most = append(most, api.Node{Name: "div", Parent: -1})
	}
	for _, l := range [][]api.Node{family(), most, nodes(el("form", "")), nodes(el("input", "disabled")), nodes(el("label", "", el("input", "")))} {
		for _, id := range append(noNodes, len(l)) {
			checkNothing(t, "a right document", l, id)
		}
	}
	if Form(most, 7) != 1 || len(Elements(most, 1)) != 5 {
		t.Error("a document of as many nodes as may be tells nothing")
	}
}

func TestP16_1_Form(t *testing.T) {
	for _, c := range []struct {
		why  string
		l    []api.Node
		id   int
		want int
	}{
		{"no form", nodes(el("html", "", el("input", ""))), 1, -1},
		{"alone", nodes(el("input", "")), 0, -1},
		{"alone, tells itself", nodes(el("input", "id=a form=a")), 0, -1},
		{"within", nodes(el("html", "", el("form", "", el("input", "")))), 2, 1},
		{"within node 0", nodes(el("form", "", el("input", ""))), 1, 0},
		{"deep within", nodes(el("form", "", el("div", "", el("fieldset", "", el("label", "", el("input", "")))))), 4, 0},
		{"within two", nodes(el("form", "", el("div", "", el("form", "", el("p", "", el("input", "")))))), 4, 2},
		{"behind an inner form", nodes(el("form", "", el("form", ""), el("input", ""))), 2, 0},
		{"told", nodes(el("html", "", el("form", "id=a"), el("input", "form=a"))), 2, 1},
		{"told ahead of it", nodes(el("html", "", el("input", "form=a"), el("form", "id=a"))), 1, 2},
		{"told, within another", nodes(el("html", "", el("form", "id=a"), el("form", "id=b", el("input", "form=a")))), 3, 1},
		{"told, within it too", nodes(el("form", "id=a", el("input", "form=a"))), 1, 0},
		{"told, the outer of two", nodes(el("form", "id=a", el("form", "id=b", el("input", "form=a")))), 2, 0},
		{"told, but no such node", nodes(el("form", "id=a", el("input", "form=x"))), 1, -1},
		{"told, but empty", nodes(el("form", "id=", el("input", "form="))), 1, -1},
		{"told, but empty, no id", nodes(el("form", "", el("input", "form"))), 1, -1},
		{"told in capitals", nodes(el("form", "id=a", el("input", "form=A"))), 1, -1},
		{"told, but no form", nodes(el("form", "", el("div", "id=a"), el("input", "form=a"))), 2, -1},
		{"told, but first no form", nodes(el("html", "", el("div", "id=a"), el("form", "id=a", el("input", "form=a")))), 3, -1},
		{"told, two forms", nodes(el("html", "", el("form", "id=a"), el("form", "id=a", el("input", "form=a")))), 3, 1},
		{"told itself", nodes(el("form", "", el("input", "id=a form=a"))), 1, -1},
		{"told by name, not by id", nodes(el("form", "name=a", el("input", "form=a"))), 1, -1},
		{"told, but the form stands apart", nodes(el("html", "", el("input", "form=a")), el("form", "id=a")), 1, -1},
		{"told, but the first one stands apart", nodes(el("html", "", el("input", "form=a"), el("form", "id=a")), el("form", "id=a")), 1, 2},
		{"apart, told", nodes(el("html", "", el("form", "id=a")), el("input", "form=a")), 2, -1},
		{"apart, told, within another", nodes(el("html", "", el("form", "id=a")), el("form", "id=b", el("p", "", el("input", "form=a")))), 4, 2},
		{"apart, told nothing", nodes(el("html", ""), el("form", "", el("input", "form="))), 2, 1},
		{"apart, told the one that it is within", nodes(el("html", ""), el("form", "id=a", el("input", "form=a"))), 2, 1},
		{"apart, within", nodes(el("html", ""), el("div", "", el("form", "", el("input", "")))), 3, 2},
		{"apart, none", nodes(el("form", ""), el("div", "", el("input", ""))), 2, -1},
		{"name isn't form", nodes(el("forms", "", el("input", ""))), 1, -1},
		{"an attribute for isn't form", nodes(el("html", "", el("form", "id=a"), el("input", "for=a"))), 2, -1},
		{"a form has none", nodes(el("form", "id=a", el("form", "form=a"))), 1, -1},
		{"an image", nodes(el("form", "", el("input", "type=IMAGE"))), 1, 0},
		{"an image, told", nodes(el("html", "", el("form", "id=a"), el("input", "type=image form=a"))), 2, 1},
		{"an image, told wrongly", nodes(el("form", "id=a", el("input", "type=image form=b"))), 1, -1},
	} {
		if got := Form(c.l, c.id); got != c.want {
			t.Errorf("%s: Form is %d, not %d", c.why, got, c.want)
		}
	}
	eachDrawn(6000, func(l []api.Node, id int) {
		if got, want := Form(l, id), slowForm(l, id); got != want {
			t.Fatalf("Form of %d of %+v is %d, not %d", id, l, got, want)
		}
	})
}

// TestP16_1_Belongs asks of each kind, within a form, and told one that it isn't within.
func TestP16_1_Belongs(t *testing.T) {
	no := []string{"form", "label", "option", "optgroup", "legend", "datalist", "div", "object", "meter", "img", "inputs", ""}
	for _, l := range [][]api.Node{nodes(el("form", "id=a", every("")...)), nodes(el("form", "id=a", el("form", "id=b", every("form=a")...)))} {
		var listed []int
		for id := range l {
			if l[id].Parent == -1 || l[id].Name == "form" {
				continue
			}
			image := slices.Contains(l[id].Attrs, api.Attr{Name: "type", Value: "image"})
			want := 0
			if slices.Contains(no, l[id].Name) {
				want = -1
			} else if !image {
				listed = append(listed, id)
			}
			if got := Form(l, id); got != want {
				t.Errorf("Form of %+v is %d, not %d", l[id], got, want)
			}
		}
		if got := Elements(l, 0); !slices.Equal(got, listed) {
			t.Errorf("Elements is %v, not %v", got, listed)
		}
	}
}

func TestP16_1_Elements(t *testing.T) {
	two := nodes(el("html", "", el("input", "form=b"), el("form", "id=a", el("input", ""), el("input", "form=b"), el("input", "form=x"), el("p", "", el("button", ""), el("input", "type=image"))), el("form", "id=b", el("input", "form=a"), el("select", "")), el("output", "form=a"), el("input", "")), el("form", "id=a", el("input", "form=a"), el("input", "")))
	for form, want := range map[int][]int{0: nil, 1: nil, 2: {3, 7, 10, 12}, 3: nil, 9: {1, 4, 11}, 14: {15, 16}, 15: nil} {
		if got := Elements(two, form); !slices.Equal(got, want) {
			t.Errorf("Elements of %d is %v, not %v", form, got, want)
		}
	}
	for _, c := range []struct {
		why  string
		l    []api.Node
		form int
		want []int
	}{
		{"nothing", nodes(el("form", "")), 0, nil},
		{"one without an id", nodes(el("form", "", el("input", "form="), el("input", "form"), el("input", ""))), 0, []int{3}},
		{"an id that is empty", nodes(el("form", "id=", el("input", "form="), el("input", ""))), 0, []int{2}},
		{"the second of an id", nodes(el("html", "", el("form", "id=a"), el("form", "id=a", el("input", "form=a"), el("input", "")))), 2, []int{4}},
		{"the first of an id", nodes(el("html", "", el("form", "id=a"), el("form", "id=a", el("input", "form=a"), el("input", "")))), 1, []int{3}},
		{"behind what is no form of that id", nodes(el("html", "id=a", el("form", "id=a", el("input", "form=a"), el("input", "")))), 1, []int{3}},
		{"those of an inner one aren't its own", nodes(el("form", "", el("input", ""), el("form", "", el("input", "")), el("input", ""))), 0, []int{1, 4}},
		{"fieldset and what is within", nodes(el("form", "", el("fieldset", "disabled", el("legend", "", el("input", "disabled")), el("output", "")))), 0, []int{1, 3, 4}},
		{"no form", nodes(el("fieldset", "", el("input", ""))), 0, nil},
		{"a text", nodes(el("form", "", txt("form"), el("input", ""))), 1, nil},
		{"an input in an input", nodes(el("form", "", el("input", "", el("input", "")))), 0, []int{1, 2}},
	} {
		if got := Elements(c.l, c.form); !slices.Equal(got, c.want) {
			t.Errorf("%s: Elements is %v, not %v", c.why, got, c.want)
		}
	}
	turned := []api.Node{{Name: "div", Parent: -1, Kids: []int{6, 2, 1}}, {Name: "input", Attrs: []api.Attr{{Name: "form", Value: "a"}}}, {Name: "form", Attrs: []api.Attr{{Name: "id", Value: "a"}}, Kids: []int{5, 4, 3}}, {Name: "input", Parent: 2}, {Name: "p", Parent: 2, Kids: []int{7}}, {Name: "input", Parent: 2}, {Name: "input", Attrs: []api.Attr{{Name: "form", Value: "a"}}}, {Name: "button", Parent: 4}}
	if got := Elements(turned, 2); !slices.Equal(got, []int{6, 5, 7, 3, 1}) {
		t.Errorf("Elements isn't in order: %v", got)
	}
	eachDrawn(6000, func(l []api.Node, id int) {
		if got, want := Elements(l, id), slowOwned(l, id, kinds.Listed); !slices.Equal(got, want) {
			t.Fatalf("Elements of %d of %+v is %v, not %v", id, l, got, want)
		}
	})
}

func TestP16_2_Default(t *testing.T) {
	for _, c := range []struct {
		why  string
		l    []api.Node
		form int
		want int
	}{
		{"nothing", nodes(el("form", "")), 0, -1},
		{"none that fires", nodes(el("form", "", el("input", ""), el("button", "type=reset"), el("button", "type=button"), el("input", "type=button"), el("input", "type=reset"))), 0, -1},
		{"a button", nodes(el("form", "", el("input", ""), el("button", ""))), 0, 2},
		{"an input", nodes(el("form", "", el("button", "type=button"), el("input", "type=submit"), el("button", ""))), 0, 2},
		{"an image", nodes(el("form", "", el("input", "type=image"), el("button", ""))), 0, 1},
		{"disabled", nodes(el("form", "", el("button", "disabled"), el("button", ""))), 0, 1},
		{"deep within", nodes(el("form", "", el("p", "", el("p", "", el("button", ""))), el("button", ""))), 0, 3},
		{"told ahead of it", nodes(el("html", "", el("button", "form=a"), el("form", "id=a", el("button", "")))), 2, 1},
		{"told behind it", nodes(el("html", "", el("form", "id=a", el("button", "form=x")), el("input", "type=image form=a"))), 1, 3},
		{"of an inner one", nodes(el("form", "", el("form", "", el("button", "")), el("button", ""))), 0, 3},
		{"told another one", nodes(el("html", "", el("form", "id=b"), el("form", "id=a", el("button", "form=b")))), 2, -1},
		{"apart", nodes(el("html", "", el("button", "")), el("form", "", el("button", "form=x"))), 2, 3},
		{"apart, no form", nodes(el("form", ""), el("div", "", el("button", ""))), 1, -1},
		{"no form", nodes(el("html", "", el("form", "", el("button", "")))), 0, -1},
		{"a button itself", nodes(el("form", "", el("button", ""))), 1, -1},
		{"a text", nodes(el("form", "", txt("form"), el("button", ""))), 1, -1},
	} {
		if got := Default(c.l, c.form); got != c.want {
			t.Errorf("%s: Default is %d, not %d", c.why, got, c.want)
		}
	}
	turned := []api.Node{{Name: "form", Parent: -1, Kids: []int{3, 2, 1}}, {Name: "button"}, {Name: "button"}, {Name: "input"}}
	if got := Default(turned, 0); got != 2 {
		t.Errorf("Default isn't the first in order: %d", got)
	}
	eachDrawn(6000, func(l []api.Node, id int) {
		if got, want := Default(l, id), slowDefault(l, id); got != want {
			t.Fatalf("Default of %d of %+v is %d, not %d", id, l, got, want)
		}
	})
}

// TestP16_2_Fires puts an element of each kind alone into a form.
func TestP16_2_Fires(t *testing.T) {
	fires := []string{"input submit", "input image", "button submit", "button nothing", "button "}
	for _, p := range every("") {
		want, kind := -1, ""
		if len(p.attrs) > 0 {
			kind = p.attrs[0].Value
		}
		if slices.Contains(fires, p.name+" "+kind) {
			want = 1
		}
		if got := Default(nodes(el("form", "", p)), 0); got != want {
			t.Errorf("Default of %+v is %d, not %d", p, got, want)
		}
	}
}

func TestP16_2_Control(t *testing.T) {
	for _, c := range []struct {
		why   string
		l     []api.Node
		label int
		want  int
	}{
		{"nothing", nodes(el("label", "")), 0, -1},
		{"a text", nodes(el("label", "", txt("input"))), 0, -1},
		{"within", nodes(el("label", "", txt("a"), el("input", ""))), 0, 2},
		{"the first within", nodes(el("label", "", el("p", "", el("select", "")), el("input", ""))), 0, 2},
		{"not a hidden one", nodes(el("label", "", el("input", "type=hidden"), el("fieldset", ""), el("input", ""))), 0, 3},
		{"a disabled one", nodes(el("label", "", el("input", "disabled"), el("input", ""))), 0, 1},
		{"within an inner label", nodes(el("label", "", el("label", "", el("input", "")))), 0, 2},
		{"within a form", nodes(el("label", "", el("form", "", el("input", "")))), 0, 2},
		{"around it", nodes(el("button", "", el("label", ""))), 1, -1},
		{"beside it", nodes(el("html", "", el("label", ""), el("input", ""))), 1, -1},
		{"told", nodes(el("html", "", el("label", "for=a"), el("input", "id=a"))), 1, 2},
		{"told, with another within", nodes(el("html", "", el("label", "for=a", el("input", "")), el("input", "id=a"))), 1, 3},
		{"told the second within", nodes(el("label", "for=a", el("input", ""), el("input", "id=a"))), 0, 2},
		{"told, but no such node", nodes(el("label", "for=a", el("input", ""))), 0, -1},
		{"told, but empty", nodes(el("label", "for=", el("input", "id="))), 0, -1},
		{"told in capitals", nodes(el("label", "for=A", el("input", "id=a"))), 0, -1},
		{"told a hidden one", nodes(el("label", "for=a", el("input", "id=a type=hidden"), el("input", ""))), 0, -1},
		{"told a form", nodes(el("html", "", el("form", "id=a", el("input", "")), el("label", "for=a"))), 3, -1},
		{"told a fieldset", nodes(el("html", "", el("fieldset", "id=a", el("input", "")), el("label", "for=a"))), 3, -1},
		{"told itself", nodes(el("label", "id=a for=a", el("input", ""))), 0, -1},
		{"told what comes first", nodes(el("html", "", el("input", "id=a"), el("label", "for=a", el("input", "id=a")))), 2, 1},
		{"told what is none at first", nodes(el("html", "", el("div", "id=a"), el("label", "for=a", el("input", "id=a")))), 2, -1},
		{"told by name", nodes(el("label", "for=a", el("input", "name=a"))), 0, -1},
		{"apart, within", nodes(el("html", "", el("input", "")), el("label", "", el("input", ""))), 2, 3},
		{"apart, told", nodes(el("html", "", el("input", "id=a")), el("label", "for=a")), 2, 1},
		{"apart, told one that is apart", nodes(el("html", ""), el("label", "for=a", el("input", "id=a"))), 1, -1},
		{"told one that is apart", nodes(el("html", "", el("label", "for=a")), el("input", "id=a")), 1, -1},
		{"no label", nodes(el("div", "for=a", el("input", "id=a"))), 0, -1},
		{"a legend", nodes(el("legend", "", el("input", ""))), 0, -1},
		{"a control", nodes(el("input", "for=a id=a", el("input", ""))), 0, -1},
		{"an attribute form isn't for", nodes(el("label", "form=a", el("input", ""), el("input", "id=a"))), 0, 1},
	} {
		if got := Control(c.l, c.label); got != c.want {
			t.Errorf("%s: Control is %d, not %d", c.why, got, c.want)
		}
	}
	turned := []api.Node{{Name: "label", Parent: -1, Kids: []int{3, 2, 1}}, {Name: "input"}, {Name: "input"}, {Name: "div"}}
	if got := Control(turned, 0); got != 2 {
		t.Errorf("Control isn't the first in order: %d", got)
	}
	eachDrawn(6000, func(l []api.Node, id int) {
		if got, want := Control(l, id), slowControl(l, id); got != want {
			t.Fatalf("Control of %d of %+v is %d, not %d", id, l, got, want)
		}
	})
}

// TestP16_2_Labels puts an element of each kind alone into a label, and tells it of a label.
func TestP16_2_Labels(t *testing.T) {
	no := []string{"fieldset", "form", "label", "option", "optgroup", "legend", "datalist", "div", "object", "meter", "img", "inputs", ""}
	for _, p := range every("id=a") {
		within, told := 1, 2
		if slices.Contains(no, p.name) || slices.Contains(p.attrs, api.Attr{Name: "type", Value: "hidden"}) {
			within, told = -1, -1
		}
		if got := Control(nodes(el("label", "", p)), 0); got != within {
			t.Errorf("Control with %+v within it is %d, not %d", p, got, within)
		}
		if got := Control(nodes(el("html", "", el("label", "for=a"), p)), 1); got != told {
			t.Errorf("Control told %+v is %d, not %d", p, got, told)
		}
	}
}

func TestP16_3_Kinds(t *testing.T) {
	no := []string{"output", "form", "label", "option", "optgroup", "legend", "datalist", "div", "object", "meter", "img", "inputs", ""}
	own, set := nodes(el("html", "", every("disabled")...)), nodes(el("fieldset", "disabled", every("")...))
	free := nodes(el("fieldset", "", every("")...))
	for id := 1; id < len(own); id++ {
		want := !slices.Contains(no, own[id].Name)
		if got := Disabled(own, id); got != want {
			t.Errorf("%+v with the attribute: %v, not %v", own[id], got, want)
		}
		if got := Disabled(set, id); got != want {
			t.Errorf("%+v in a disabled fieldset: %v, not %v", set[id], got, want)
		}
		if Disabled(free, id) {
			t.Errorf("%+v is disabled by nothing", free[id])
		}
	}
}

func TestP16_3_Disabled(t *testing.T) {
	shut := func(kids ...part) part { return el("fieldset", "disabled", kids...) }
	legend := func(kids ...part) part { return el("legend", "", kids...) }
	in := el("input", "")
	for _, c := range []struct {
		why  string
		p    part
		id   int
		want bool
	}{
		{"alone", in, 0, false},
		{"its own, empty", el("input", "disabled"), 0, true},
		{"its own, false", el("input", "disabled=false"), 0, true},
		{"no such attribute", el("input", "readonly"), 0, false},
		{"a value alone", el("input", "type=disabled"), 0, false},
		{"a fieldset itself", shut(), 0, true},
		{"in a free fieldset", el("fieldset", "", in), 1, false},
		{"in a shut one", shut(in), 1, true},
		{"deep in a shut one", shut(el("div", "", el("form", "", in))), 3, true},
		{"in a free one in a shut one", shut(el("fieldset", "", in)), 2, true},
		{"a free one in a shut one", shut(el("fieldset", "")), 1, true},
		{"in a shut one in a free one", el("fieldset", "", shut(in)), 2, true},
		{"around a shut one", el("button", "", shut()), 0, false},
		{"beside a shut one", el("html", "", shut(), in), 2, false},
		{"in the first legend", shut(legend(in)), 2, false},
		{"deep in the first legend", shut(legend(el("p", "", el("fieldset", "", in)))), 4, false},
		{"a fieldset in the first legend", shut(legend(el("fieldset", ""))), 2, false},
		{"its own, in the first legend", shut(legend(el("input", "disabled"))), 2, true},
		{"in the second legend", shut(legend(), legend(in)), 3, true},
		{"behind the first legend", shut(legend(), in), 2, true},
		{"ahead of the first legend", shut(in, legend()), 1, true},
		{"in the first legend, not the first child", shut(txt("a"), el("p", ""), in, legend(in), legend()), 5, false},
		{"in a legend that is no child", shut(el("div", "", legend(in))), 3, true},
		{"in a legend in the first legend", shut(legend(legend(in))), 3, false},
		{"in a legend in the second legend", shut(legend(), legend(legend(in))), 4, true},
		{"in a legend that is no child, ahead of the first", shut(el("p", "", legend(in)), legend(in)), 3, true},
		{"in the first one behind it", shut(el("p", "", legend(in)), legend(in)), 5, false},
		{"in the first legend of a shut one in a shut one", shut(shut(legend(in))), 3, true},
		{"in a shut one in the first legend", shut(legend(shut(in))), 3, true},
		{"in the first legends of two", shut(legend(shut(legend(in)))), 4, false},
		{"in the second legend of the outer", shut(legend(), legend(shut(legend(in)))), 5, true},
		{"in the first legend of a free one in a shut one", shut(el("fieldset", "", legend(in))), 3, true},
		{"in the first legend of a shut one, in a free one's second", el("fieldset", "", legend(), legend(shut(legend(in)))), 5, false},
		{"in a shut legend", el("fieldset", "", el("legend", "disabled", in)), 2, false},
		{"in a shut select", el("select", "disabled", in), 1, false},
		{"in a shut group", el("optgroup", "disabled", in), 1, false},
		{"in what isn't a fieldset", el("fieldsets", "disabled", in), 1, false},
		{"the first legend itself", shut(legend()), 1, false},
		{"the second legend itself", shut(legend(), legend()), 2, false},
	} {
		if got := Disabled(nodes(c.p), c.id); got != c.want {
			t.Errorf("%s: Disabled is %v, not %v", c.why, got, c.want)
		}
		if apart := nodes(el("html", ""), c.p); Disabled(apart, c.id+1) != c.want {
			t.Errorf("%s, apart: Disabled is not %v", c.why, c.want)
		}
	}
	turned := []api.Node{{Name: "fieldset", Parent: -1, Attrs: []api.Attr{{Name: "disabled"}}, Kids: []int{3, 1}}, {Name: "legend", Kids: []int{2}}, {Name: "input", Parent: 1}, {Name: "legend", Kids: []int{4}}, {Name: "input", Parent: 3}}
	if !Disabled(turned, 2) || Disabled(turned, 4) {
		t.Error("the first legend is the first in order")
	}
	eachDrawn(6000, func(l []api.Node, id int) {
		if got, want := Disabled(l, id), slowDisabled(l, id); got != want {
			t.Fatalf("Disabled of %d of %+v is %v, not %v", id, l, got, want)
		}
	})
}

func TestP16_4(t *testing.T) {
	owners := 0
	eachDrawn(6000, func(l []api.Node, id int) {
		if id < 0 || id >= len(l) || !kinds.Listed(kinds.Of(l[id])) {
			return
		}
		var of []int
		for form := range l {
			for _, each := range Elements(l, form) {
				if each == id {
					of = append(of, form)
				}
			}
		}
		var want []int
		if form := Form(l, id); form != -1 {
			owners++
			want = []int{form}
		}
		if !slices.Equal(of, want) {
			t.Fatalf("%d of %+v is an element of %v, not %v", id, l, of, want)
		}
	})
	if owners < 1000 {
		t.Errorf("only %d controls that have a form were drawn", owners)
	}
}

func TestExamples(t *testing.T) {
	if got := Form(nodes(el("form", "", el("input", "form=x"))), 1); got != -1 {
		t.Errorf("Form is %d", got)
	}
	if Disabled(nodes(el("fieldset", "disabled", el("legend", "", el("button", "")))), 2) {
		t.Error("the button is disabled")
	}
}

// TestR1_Deep asks of as many nodes as there may be, each within the one ahead.
func TestR1_Deep(t *testing.T) {
	l := []api.Node{{Name: "form", Parent: -1, Attrs: []api.Attr{{Name: "id", Value: "a"}}}}
	for i := 1; i < api.MaxNodes; i++ {
		l[i-1].Kids = []int{i}
		n := api.Node{Name: []string{"fieldset", "legend", "button", "label"}[i%4], Parent: i - 1}
		n.Attrs = []api.Attr{{Name: "form", Value: "a"}, {Name: "type", Value: strings.Repeat("x", api.MaxText)}}
		l = append(l, n)
	}
	l[1].Name, l[1].Attrs = "fieldset", []api.Attr{{Name: "disabled"}}
	last := api.MaxNodes - 2
	if Form(l, last) != 0 || len(Elements(l, 0)) != 200 || Default(l, 0) != 2 || Control(l, 3) != 6 || !Disabled(l, last) {
		t.Error(Form(l, last), len(Elements(l, 0)), Default(l, 0), Control(l, 3), Disabled(l, last))
	}
}

// roomy is a copy of list, with spare room behind it that is filled by more.
func roomy[T any](list []T, more ...T) []T {
	return append(slices.Clone(list), more...)[:len(list)]
}

// wholly is all of l, up to the ends of its spare rooms.
func wholly(l []api.Node) []api.Node {
	all := slices.Clone(l[:cap(l)])
	for i := range all {
		n := &all[i]
		n.Attrs, n.Kids = slices.Clone(n.Attrs[:cap(n.Attrs)]), slices.Clone(n.Kids[:cap(n.Kids)])
	}
	return all
}

func TestR4(t *testing.T) {
	l := family()
	for i := range l {
		l[i].Attrs = roomy(l[i].Attrs, api.Attr{Name: "form", Value: "x"}, api.Attr{Name: "disabled"})
		l[i].Kids = roomy(l[i].Kids, 77, 78)
	}
	l = roomy(l, api.Node{Name: "input", Parent: 1})
	was := wholly(l)
	for id := -1; id <= len(l); id++ {
		Form(l, id)
		Elements(l, id)
		Default(l, id)
		Control(l, id)
		Disabled(l, id)
	}
	first, second := Elements(l, 1), Elements(l, 1)
	for i := range first[:cap(first)] {
		first[:cap(first)][i] = -5
	}
	if want := []int{2, 3, 5, 6, 7}; !slices.Equal(second, want) || !slices.Equal(Elements(l, 1), want) {
		t.Errorf("Elements is %v, then %v", second, Elements(l, 1))
	}
	if !reflect.DeepEqual(wholly(l), was) {
		t.Error("what was handed in is changed")
	}
}
