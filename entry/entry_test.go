package entry

import (
	"math"
	"math/rand"
	"reflect"
	"slices"
	"strconv"
	"strings"
	"testing"
	"unsafe"

	"counterfoil/api"
	"counterfoil/control"
	"counterfoil/kinds"
	"counterfoil/option"
	"counterfoil/owner"
	"counterfoil/tree"
)

// noNodes are numbers that no document's nodes have, such among them as would be one if they were cut.
var noNodes = []int{-1, -2, -400, api.MaxNodes, api.MaxNodes + 1, 1 << 16, 1 << 31, -1 << 31, 1 << 32, 1<<32 + 1, -1<<32 + 1, math.MaxInt, math.MinInt, math.MinInt + 1}

// inputTypes are all that an input may have, in the order of their kinds.
var inputTypes = []string{"hidden", "text", "search", "tel", "url", "email", "password", "date", "month", "week", "time", "datetime-local", "number", "range", "color", "checkbox", "radio", "file", "submit", "image", "reset", "button"}

// otherNames are those of elements that aren't submitted; but form, which may be one's own.
var otherNames = []string{"output", "fieldset", "label", "option", "optgroup", "legend", "datalist", "div", "object", "inputs"}

// part is a node with what is within it and its state; a text, if its name is empty.
type part struct {
	name, text string
	attrs      []api.Attr
	state      api.Ctl
	kids       []part
}

// el is an element with attributes told as "name=value", or "name" alone, with blanks between.
func el(name, attrs string, kids ...part) part {
	p := part{name: name, kids: kids}
	for _, a := range strings.Fields(attrs) {
		n, v, _ := strings.Cut(a, "=")
		p.attrs = append(p.attrs, api.Attr{Name: n, Value: v})
	}
	return p
}

func input(attrs string, kids ...part) part { return el("input", attrs, kids...) }

func txt(s string) part { return part{text: s} }

// with is p with one more attribute, whose value may hold anything.
func (p part) with(name, value string) part {
	p.attrs = append(slices.Clone(p.attrs), api.Attr{Name: name, Value: value})
	return p
}

func (p part) holding(value string) part {
	p.state.Value = value
	return p
}

func (p part) checked() part {
	p.state.Checked = true
	return p
}

func (p part) selected() part {
	p.state.Selected = true
	return p
}

func (p part) files(all ...api.Entry) part {
	p.state.Files = all
	return p
}

// put numbers the parts in order, from the last node of d on.
func put(d api.Doc, p part, parent int) api.Doc {
	id := len(d.Nodes)
	d.Nodes = append(d.Nodes, api.Node{Name: p.name, Text: p.text, Attrs: p.attrs, Parent: parent})
	d.Ctls = append(d.Ctls, p.state)
	for _, kid := range p.kids {
		d.Nodes[id].Kids = append(d.Nodes[id].Kids, len(d.Nodes))
		d = put(d, kid, id)
	}
	return d
}

// doc is a document of trees that stand apart; node 0 is the first one's top.
func doc(trees ...part) api.Doc {
	var d api.Doc
	for _, p := range trees {
		d = put(d, p, -1)
	}
	return d
}

// formOf is a document of a form alone, as node 0, with those parts within it, from node 1 on.
func formOf(parts ...part) api.Doc { return doc(el("form", "", parts...)) }

// everyControl is one of each kind that is submitted, in the kinds' order, each with those attributes.
func everyControl(attrs string) []part {
	var out []part
	for _, t := range inputTypes {
		out = append(out, input("type="+t+" "+attrs))
	}
	out = append(out, el("select", attrs), el("textarea", attrs))
	return append(out, el("button", attrs), el("button", "type=reset "+attrs), el("button", "type=button "+attrs))
}

// said is entries told as texts, name=value; a file's with its name and type behind.
func said(l []api.Entry) []string {
	var out []string
	for _, e := range l {
		s := e.Name + "=" + e.Value
		if e.File {
			s += " file " + e.FileName + " " + e.Type
		} else if e.FileName != "" || e.Type != "" {
			s += " no file, but " + e.FileName + " " + e.Type
		}
		out = append(out, s)
	}
	return out
}

// check holds the entries of d's form, told as said tells them.
func check(t *testing.T, why string, d api.Doc, form, submitter int, want ...string) {
	t.Helper()
	got, e := List(d, form, submitter)
	if e != api.OK || !slices.Equal(said(got), want) {
		t.Errorf("%s: the entries of %d by %d are %q, %d, not %q", why, form, submitter, said(got), e, want)
	}
}

// mixed is html (0) with a form f (1), within which are a text field a (2), a label (3) with a ticked checkbox b (4), a fieldset (5) with a select c (6) of two options (7, 8), a button d (9), another form (10) with a text field e (11), and an image i (12); beside it a text field g that tells f (13), one h of no form (14) and one of a form that isn't there (15); apart from all a text field k that tells f (16), and a form f (17) with a text field l (18).
func mixed() api.Doc {
	return doc(
		el("html", "",
			el("form", "id=f",
				input("name=a").holding("1"),
				el("label", "", input("name=b type=checkbox").checked()),
				el("fieldset", "name=s",
					el("select", "name=c", el("option", "value=o").selected(), el("option", "value=p"))),
				el("button", "name=d value=v"),
				el("form", "", input("name=e").holding("2")),
				input("type=image name=i")),
			input("name=g form=f").holding("3"),
			input("name=h").holding("4"),
			input("name=j form=x").holding("5")),
		input("name=k form=f").holding("6"),
		el("form", "id=f", input("name=l").holding("7")))
}

func TestP22_1Mixed(t *testing.T) {
	d := mixed()
	check(t, "f", d, 1, -1, "a=1", "b=on", "c=o", "g=3")
	check(t, "f, by its button", d, 1, 9, "a=1", "b=on", "c=o", "d=v", "g=3")
	check(t, "f, by its image", d, 1, 12, "a=1", "b=on", "c=o", "i.x=0", "i.y=0", "g=3")
	check(t, "the form within f", d, 10, -1, "e=2")
	check(t, "the form within f, by f's button", d, 10, 9, "e=2")
	check(t, "the form within f, by f's image", d, 10, 12, "e=2")
	check(t, "the form apart", d, 17, -1, "l=7")
	check(t, "a form of nothing", formOf(), 0, -1)
	for _, submitter := range append(noNodes, len(d.Nodes), 0, 1, 2, 4, 6, 7, 11, 13, 14, 18) {
		check(t, "a submitter that fires nothing", d, 1, submitter, "a=1", "b=on", "c=o", "g=3")
	}
}

// TestP22_1Errors asks of each node of mixed, and of what is none.
func TestP22_1Errors(t *testing.T) {
	d := mixed()
	for id := range d.Nodes {
		got, e := List(d, id, -1)
		if isForm := id == 1 || id == 10 || id == 17; isForm != (e == api.OK) || !isForm && (e != api.ErrKind || got != nil) {
			t.Errorf("List of %d is %v, %d", id, got, e)
		}
	}
	for _, id := range append(noNodes, len(d.Nodes)) {
		if got, e := List(d, id, -1); e != api.ErrNode || got != nil {
			t.Errorf("List of %d is %v, %d", id, got, e)
		}
	}
	for _, p := range slices.Concat(everyControl("name=a"), []part{txt("form"), txt("")}) {
		if got, e := List(doc(el("form", "", p.holding("x"))), 1, 1); e != api.ErrKind || got != nil {
			t.Errorf("List of %+v is %v, %d", p, got, e)
		}
	}
	for _, name := range otherNames {
		if got, e := List(doc(el(name, "type=form", input("name=a"))), 0, -1); e != api.ErrKind || got != nil {
			t.Errorf("List of %s is %v, %d", name, got, e)
		}
	}
}

// wrongDocs are documents that aren't right, but otherwise as mixed is.
func wrongDocs() []api.Doc {
	var out []api.Doc
	add := func(change func(d *api.Doc)) {
		d := mixed()
		change(&d)
		out = append(out, d)
	}
	at := func(id int, change func(n *api.Node)) {
		add(func(d *api.Doc) { change(&d.Nodes[id]) })
	}
	add(func(d *api.Doc) { *d = api.Doc{} })
	add(func(d *api.Doc) { d.Ctls = nil })
	add(func(d *api.Doc) { d.Nodes = nil })
	add(func(d *api.Doc) { d.Ctls = d.Ctls[:len(d.Ctls)-1] })
	add(func(d *api.Doc) { d.Ctls = append(d.Ctls, api.Ctl{}) })
	add(func(d *api.Doc) { d.Nodes, d.Ctls = d.Nodes[:18], d.Ctls[:18] })
	add(func(d *api.Doc) { d.Nodes, d.Ctls = d.Nodes[1:], d.Ctls[1:] })
	at(0, func(n *api.Node) { n.Name = "" })
	at(0, func(n *api.Node) { n.Text = "x" })
	at(0, func(n *api.Node) { n.Parent = 1 })
	at(0, func(n *api.Node) { n.Parent = 0 })
	at(0, func(n *api.Node) { n.Kids = n.Kids[:2] })
	at(1, func(n *api.Node) { n.Kids[0] = 99 })
	at(1, func(n *api.Node) { n.Kids[0] = -1 })
	at(1, func(n *api.Node) { n.Kids[0] = n.Kids[1] })
	at(2, func(n *api.Node) { n.Parent = 77 })
	at(2, func(n *api.Node) { n.Parent = -7 })
	at(2, func(n *api.Node) { n.Parent = 2 })
	at(2, func(n *api.Node) { n.Name = "INPUT" })
	at(8, func(n *api.Node) { n.Attrs = append(n.Attrs, api.Attr{Name: "Name"}) })
	at(13, func(n *api.Node) { n.Attrs = append(n.Attrs, api.Attr{Name: "name", Value: "x"}) })
	at(9, func(n *api.Node) { n.Attrs[0].Value = strings.Repeat("x", api.MaxText+1) })
	at(18, func(n *api.Node) { n.Text = "x" })
	add(func(d *api.Doc) { // two that stand within each other
		d.Nodes[5].Parent, d.Nodes[6].Kids = 6, []int{7, 8, 5}
		d.Nodes[1].Kids = slices.DeleteFunc(d.Nodes[1].Kids, func(kid int) bool { return kid == 5 })
	})
	add(func(d *api.Doc) {
		for len(d.Nodes) <= api.MaxNodes {
			d.Nodes, d.Ctls = append(d.Nodes, api.Node{Name: "input", Parent: -1}), append(d.Ctls, api.Ctl{})
		}
	})
	return out
}

// TestP22_1Wrong holds too that a wrong document's error comes first: node 2, say, is no form.
func TestP22_1Wrong(t *testing.T) {
	for i, d := range wrongDocs() {
		for _, id := range append(noNodes, 0, 1, 2, 6, 9, 10, 16, 17, 18, 19) {
			for _, submitter := range []int{-1, 9, 12, id} {
				if got, e := List(d, id, submitter); e != api.ErrNode || got != nil {
					t.Errorf("wrong document %d: List of %d by %d is %v, %d", i, id, submitter, got, e)
				}
			}
		}
	}
}

// TestP22_1Order holds that the order is that of the document, not of the numbers, nor one in which the form's own come first.
func TestP22_1Order(t *testing.T) {
	turned := formOf(input("name=a"), input("name=b"), el("select", "name=c multiple", el("option", "value=1").selected(), el("option", "value=2").selected()), input("type=image name=d"))
	turned.Nodes[0].Kids, turned.Nodes[3].Kids = []int{6, 3, 2, 1}, []int{5, 4}
	check(t, "turned", turned, 0, 6, "d.x=0", "d.y=0", "c=2", "c=1", "b=", "a=")
	around := doc(el("html", "", input("name=a form=f"), el("form", "id=f", input("name=b", input("name=c")), el("div", "", input("name=d")), input("name=e")), input("name=g form=f", input("name=h form=f"))))
	check(t, "around", around, 2, -1, "a=", "b=", "c=", "d=", "e=", "g=", "h=")
	form := doc(el("html", "", input("name=a type=image form=f"), input("name=z form=f"), el("form", "id=f", input("name=b")), input("name=y form=f")))
	check(t, "an image ahead", form, 3, 1, "a.x=0", "a.y=0", "z=", "b=", "y=")
	apart := doc(el("html", ""), el("div", "", input("name=a form=f"), el("form", "id=f", input("name=b")), input("name=c")))
	check(t, "apart, where no attribute form counts", apart, 3, -1, "b=")
	deep := doc(el("html", ""), el("p", "", el("form", "", el("div", "", input("name=a form=x", input("name=b"))))))
	check(t, "apart, by the forms that are around", deep, 2, -1, "a=", "b=")
}

// TestP22_1Whose holds which form's the entries are; that a button which isn't of the form adds nothing, though it is the submitter.
func TestP22_1Whose(t *testing.T) {
	for _, c := range []struct {
		attrs string
		want  []string
	}{
		{"", []string{"a="}}, {"form=f", []string{"a="}}, {"form=g", nil}, {"form=x", nil}, {"form=", nil}, {"form=F", nil}, {"form=d", nil},
	} {
		for _, kind := range []string{"text", "hidden", "submit", "password", "email"} {
			d := doc(el("html", "", el("div", "id=d"), el("form", "id=g"), el("form", "id=f", el("div", "", input("name=a type="+kind+" "+c.attrs)))))
			check(t, kind+" "+c.attrs, d, 3, 5, c.want...)
		}
		d := doc(el("html", "", el("div", "id=d"), el("form", "id=g"), el("form", "id=f", input("type=image "+c.attrs))))
		if c.want == nil {
			check(t, "an image, "+c.attrs, d, 3, 4)
		} else {
			check(t, "an image, "+c.attrs, d, 3, 4, "x=0", "y=0")
		}
	}
}

// TestP22_1Every has one control of each kind in a form, with a name and a state of which something could be told, each in turn as the submitter.
func TestP22_1Every(t *testing.T) {
	kept := []string{
		"n=at", "n=own", "n=own", "n=own", "n=own", "n=own", "n=own", "n=own", "n=own", "n=own", "n=own", "n=own", "n=own", "n=own", "n=own",
		"n=at", "n=at", "n=v file f t", "", "", "", "", "n=o", "n=own", "", "", "",
	}
	fired := map[int][]string{api.KSubmit: {"n=at"}, api.KImage: {"n.x=0", "n.y=0"}, api.KSubmits: {"n=at"}}
	parts := everyControl("name=n value=at")
	for i := range parts {
		parts[i] = parts[i].holding("own").checked().selected().files(api.Entry{FileName: "f", Type: "t", Value: "v"})
		if parts[i].name == "select" {
			parts[i].kids = []part{el("option", "value=o").selected()}
		}
	}
	for i, p := range parts {
		kind := i + 1
		for _, submitter := range []int{-1, 0, 1, 2} {
			want := fired[kind]
			if submitter != 1 || want == nil {
				want = slices.DeleteFunc([]string{kept[i]}, func(s string) bool { return s == "" })
			}
			check(t, "kind "+strconv.Itoa(kind), formOf(p), 0, submitter, want...)
		}
		for _, attrs := range []string{"disabled", "readonly", "required", "hidden"} {
			d := formOf(p.with(attrs, ""))
			if got, _ := List(d, 0, 1); (len(got) == 0) != (attrs == "disabled" || kept[i] == "" && fired[kind] == nil) {
				t.Errorf("kind %d, %s: %q", kind, attrs, said(got))
			}
		}
	}
	all := slices.Concat(parts, []part{el("output", "name=n value=x", txt("y")).holding("own"), el("object", "name=n value=x").holding("own")})
	want := slices.DeleteFunc(slices.Clone(kept), func(s string) bool { return s == "" })
	check(t, "all of them", formOf(all...), 0, -1, want...)
}

// TestP22_1Others asks of elements that aren't submitted, and of texts.
func TestP22_1Others(t *testing.T) {
	full := api.Ctl{Value: "own", Checked: true, Selected: true, Files: []api.Entry{{FileName: "f"}}}
	for _, name := range append(slices.Clone(otherNames), "form", "h1", "inpu", "textareas", "buttons", "selects") {
		p := el(name, "name=n value=v type=text", txt("z"))
		p.state = full
		d := formOf(p)
		check(t, name, d, 0, -1)
		check(t, name+", as the submitter", d, 0, 1)
	}
	p := txt("input")
	p.state = full
	check(t, "a text", formOf(p), 0, 1)
}

// TestP22_1Left holds where a control is left out, as it is within a list of data, or disabled; and that it is left out if it is the submitter too.
func TestP22_1Left(t *testing.T) {
	for _, c := range []struct {
		why string
		p   part // within the form, as node 1
		id  int  // the control
		out bool
	}{
		{"disabled", input("disabled"), 1, true},
		{"disabled=false", input("disabled=false"), 1, true},
		{"in a datalist", el("datalist", "", input("")), 2, true},
		{"deep in a datalist", el("datalist", "", el("div", "", el("p", "", input("")))), 4, true},
		{"in an option of a datalist", el("datalist", "", el("option", "", input(""))), 3, true},
		{"beside a datalist", el("div", "", el("datalist", ""), input("")), 3, false},
		{"with a datalist within it", input("", el("datalist", "")), 1, false},
		{"with an attribute list", input("list=datalist"), 1, false},
		{"in a disabled fieldset", el("fieldset", "disabled", input("")), 2, true},
		{"deep in a disabled fieldset", el("fieldset", "disabled", el("fieldset", "", el("div", "", input("")))), 4, true},
		{"in its first legend", el("fieldset", "disabled", el("legend", "", input(""))), 3, false},
		{"deep in its first legend", el("fieldset", "disabled", el("div", ""), el("legend", "", el("p", "", input("")))), 5, false},
		{"in its second legend", el("fieldset", "disabled", el("legend", ""), el("legend", "", input(""))), 4, true},
		{"in a legend of a fieldset within it", el("fieldset", "disabled", el("fieldset", "disabled", el("legend", "", input("")))), 4, true},
		{"in a fieldset", el("fieldset", "", input("")), 2, false},
		{"in a disabled div", el("div", "disabled", input("")), 2, false},
		{"in a disabled select", el("select", "disabled", input("")), 2, false},
		{"with a disabled one within it", input("", input("disabled")), 1, false},
		{"readonly", input("readonly"), 1, false},
	} {
		for _, attrs := range []string{"type=text", "type=image", "type=submit", "type=hidden", "type=checkbox", "type=file"} {
			d := formOf(c.p)
			for _, a := range el("", "name=n "+attrs).attrs {
				d.Nodes[c.id].Attrs = append(slices.Clone(d.Nodes[c.id].Attrs), a)
			}
			d.Ctls[c.id].Checked = true
			if got, e := List(d, 0, c.id); e != api.OK || (len(got) == 0) != c.out {
				t.Errorf("%s, %s: %q %d", c.why, attrs, said(got), e)
			}
		}
	}
	check(t, "the form is disabled, and in a datalist's form", doc(el("form", "disabled", input("name=n"))), 0, -1, "n=")
	check(t, "the form is within a datalist", doc(el("datalist", "", el("form", "", input("name=n")))), 1, -1)
	check(t, "the form is within a disabled fieldset", doc(el("fieldset", "disabled", el("form", "", input("name=n")))), 1, -1)
	check(t, "the form is within a disabled fieldset, a field isn't", doc(el("html", "", el("fieldset", "disabled", el("form", "id=f", input("name=n"))), input("name=m form=f"))), 2, -1, "m=")
}

func TestP22_1Images(t *testing.T) {
	for _, c := range []struct {
		p    part
		want []string
	}{
		{input("type=image"), []string{"x=0", "y=0"}},
		{input("type=image name="), []string{"x=0", "y=0"}},
		{input("type=image name=i"), []string{"i.x=0", "i.y=0"}},
		{input("type=image name=."), []string{"..x=0", "..y=0"}},
		{input("type=image").with("name", " "), []string{" .x=0", " .y=0"}},
		{input("type=image").with("name", "a.b\r\n"), []string{"a.b\r\n.x=0", "a.b\r\n.y=0"}},
		{input("type=IMAGE name=_charset_ value=7").holding("8"), []string{"_charset_.x=0", "_charset_.y=0"}},
		{input("type=image name=x disabled"), nil},
	} {
		check(t, "an image that isn't the submitter", formOf(c.p), 0, -1)
		check(t, "an image that isn't the submitter", formOf(c.p, el("button", "name=b")), 0, 2, "b=")
		check(t, "an image", formOf(c.p), 0, 1, c.want...)
	}
	check(t, "one of two images", formOf(input("type=image name=a"), input("type=image name=a")), 0, 2, "a.x=0", "a.y=0")
}

func TestP22_1Buttons(t *testing.T) {
	for _, c := range []struct {
		p    part
		want []string // of the submitter
	}{
		{el("button", "name=b value=v"), []string{"b=v"}}, {el("button", "name=b"), []string{"b="}}, {el("button", "name=b", txt("text")).holding("own"), []string{"b="}},
		{el("button", "name=b type=submit value=v"), []string{"b=v"}}, {el("button", "name=b type=x value=v"), []string{"b=v"}}, {el("button", "name=b type=SUBMIT value="), []string{"b="}},
		{input("type=submit name=b value=v"), []string{"b=v"}}, {input("type=submit name=b").holding("own"), []string{"b="}}, {input("type=Submit name=_charset_ value=v"), []string{"_charset_=v"}},
		{el("button", "type=button name=b value=v"), nil}, {el("button", "type=RESET name=b value=v"), nil}, {input("type=button name=b value=v"), nil}, {input("type=reset name=b value=v"), nil},
		{el("button", "value=v"), nil}, {el("button", "name= value=v"), nil}, {input("type=submit value=v"), nil}, {input("type=submit name= value=v"), nil},
	} {
		check(t, "the submitter", formOf(c.p.checked()), 0, 1, c.want...)
		for _, submitter := range []int{-1, 0, 2} {
			check(t, "not the submitter", formOf(c.p.checked()), 0, submitter)
		}
	}
	check(t, "one of three", formOf(el("button", "name=a"), el("button", "name=b"), input("type=submit name=c")), 0, 2, "b=")
}

func TestP22_1Ticked(t *testing.T) {
	for _, typ := range []string{"checkbox", "radio"} {
		for attrs, want := range map[string]string{"": "n=on", "value=v": "n=v", "value=": "n=", "checked": "n=on", "value=on": "n=on"} {
			p := input("name=n type=" + typ + " " + attrs).holding("own")
			check(t, typ+" "+attrs, formOf(p), 0, -1)
			check(t, typ+" "+attrs+", as the submitter", formOf(p), 0, 1)
			check(t, typ+" "+attrs+", ticked", formOf(p.checked()), 0, -1, want)
			p.state = api.Ctl{Mixed: true, DirtyChecked: true, Selected: true}
			check(t, typ+" "+attrs+", neither", formOf(p), 0, -1)
			check(t, typ+" "+attrs+", neither, but ticked", formOf(p.checked()), 0, -1, want)
		}
	}
	check(t, "two of a group, though that can't be", formOf(input("type=radio name=n value=1").checked(), input("type=radio name=n value=2").checked()), 0, -1, "n=1", "n=2")
	check(t, "a text field doesn't ask for it", formOf(input("name=n")), 0, -1, "n=")
}

func TestP22_1Selects(t *testing.T) {
	o := func(attrs string, kids ...part) part { return el("option", attrs, kids...).selected() }
	for _, c := range []struct {
		p    part
		want []string
	}{
		{el("select", "name=s"), nil},
		{el("select", "name=s value=v").holding("own"), nil},
		{el("select", "name=s", el("option", "value=a"), el("option", "value=b selected")), nil},
		{el("select", "name=s", o("value=a")), []string{"s=a"}},
		{el("select", "name=s", o("value=")), []string{"s="}},
		{el("select", "name=s", o("", txt(" a \t b\n"))), []string{"s=a b"}},
		{el("select", "name=s", o("", txt("a"), el("b", "", txt("x")), txt("b"))), []string{"s=ab"}},
		{el("select", "name=s", o("").with("value", " a  b ")), []string{"s= a  b "}},
		{el("select", "name=s", o("").holding("own")), []string{"s="}},
		{el("select", "name=s", o("value=a disabled")), nil},
		{el("select", "name=s", o("value=a disabled="), o("value=b")), []string{"s=b"}},
		{el("select", "name=s", o("value=a"), o("value=b")), []string{"s=a", "s=b"}}, // though that can't be
		{el("select", "name=s multiple", o("value=b"), el("option", "value=c"), o("value=a"), o("value=b")), []string{"s=b", "s=a", "s=b"}},
		{el("select", "name=s multiple", el("optgroup", "", o("value=a"), o("value=b disabled")), o("value=c")), []string{"s=a", "s=c"}},
		{el("select", "name=s multiple", el("optgroup", "disabled", o("value=a")), o("value=c")), []string{"s=c"}},
		{el("select", "name=s multiple", el("optgroup", "", el("optgroup", "", o("value=a"))), el("div", "", o("value=c"))), nil},
		{el("select", "name=_charset_", o("value=a")), []string{"_charset_=a"}},
		{el("select", "", o("value=a")), nil},
		{el("select", "name=", o("value=a")), nil},
		{el("select", "name=s disabled", o("value=a")), nil},
	} {
		for _, submitter := range []int{-1, 0, 1, 2} {
			check(t, "a select", formOf(c.p), 0, submitter, c.want...)
		}
	}
	check(t, "options of two selects", formOf(el("select", "name=s", o("value=a")), el("select", "name=t", o("value=b"))), 0, -1, "s=a", "t=b")
	check(t, "an option of none", formOf(o("value=a name=n"), el("datalist", "", o("value=b name=n"))), 0, -1)
}

// TestP22_1Files holds each field of the entries; a file's own name isn't that of a control, and what is no file in the state is one here.
func TestP22_1Files(t *testing.T) {
	p := input("type=file name=n value=v").holding("own")
	none := api.Entry{Name: "n", File: true, Type: "application/octet-stream"}
	for _, c := range []struct{ files, want []api.Entry }{
		{nil, []api.Entry{none}},
		{[]api.Entry{}, []api.Entry{none}},
		{[]api.Entry{{}}, []api.Entry{{Name: "n", File: true}}},
		{[]api.Entry{{Name: "other", FileName: "f", Type: "t", Value: "v"}}, []api.Entry{{Name: "n", File: true, FileName: "f", Type: "t", Value: "v"}}},
		{[]api.Entry{{File: true, FileName: "f"}, {File: true, Type: "t"}, {Value: "v"}, {FileName: "f"}}, []api.Entry{{Name: "n", File: true, FileName: "f"}, {Name: "n", File: true, Type: "t"}, {Name: "n", File: true, Value: "v"}, {Name: "n", File: true, FileName: "f"}}},
		{[]api.Entry{{FileName: "a\r\n\"\\b", Type: "\xff\n", Value: "\n\r\x00"}}, []api.Entry{{Name: "n", File: true, FileName: "a\r\n\"\\b", Type: "\xff\n", Value: "\n\r\x00"}}},
	} {
		for _, submitter := range []int{-1, 1} {
			if got, e := List(formOf(p.files(c.files...)), 0, submitter); e != api.OK || !slices.Equal(got, c.want) {
				t.Errorf("of files %+v the entries are %+v, %d", c.files, got, e)
			}
		}
	}
	for _, attrs := range []string{"type=file", "type=file name=", "type=file name=n disabled"} {
		check(t, attrs, formOf(input(attrs).files(api.Entry{FileName: "f"})), 0, -1)
	}
	check(t, "_charset_", formOf(input("type=file name=_charset_")), 0, -1, "_charset_= file  application/octet-stream")
	check(t, "what isn't a file's", formOf(input("name=n").holding("own").files(api.Entry{FileName: "f", Value: "v"})), 0, -1, "n=own")
}

// TestP22_1Charset holds that the name counts as it is, and for hidden controls alone.
func TestP22_1Charset(t *testing.T) {
	check(t, "with a value", formOf(input("type=hidden name=_charset_ value=x").holding("own")), 0, -1, "_charset_=UTF-8")
	check(t, "without", formOf(input("type=HIDDEN name=_charset_")), 0, 1, "_charset_=UTF-8")
	check(t, "two", formOf(input("type=hidden name=_charset_"), input("type=hidden name=_charset_")), 0, -1, "_charset_=UTF-8", "_charset_=UTF-8")
	for _, name := range []string{"_CHARSET_", "_Charset_", "_charset", "charset_", "charset", "__charset_", "_charset_ ", " _charset_", "_charset_\x00", "n"} {
		check(t, "another name", formOf(input("type=hidden value=x").with("name", name)), 0, -1, name+"=x")
	}
	for _, typ := range []string{"text", "search", "email", "number", "color", "nothing"} {
		check(t, typ, formOf(input("name=_charset_ value=x type="+typ).holding("own")), 0, -1, "_charset_=own")
	}
	check(t, "a textarea", formOf(el("textarea", "name=_charset_").holding("own")), 0, -1, "_charset_=own")
	check(t, "a checkbox", formOf(input("type=checkbox name=_charset_ value=x").checked()), 0, -1, "_charset_=x")
	check(t, "disabled", formOf(input("type=hidden name=_charset_ disabled")), 0, -1)
}

// TestP22_1Values holds that names and values are told as they are: ends of lines, blanks and wrong signs stay.
func TestP22_1Values(t *testing.T) {
	for _, s := range []string{"", " ", "a", "a b", "a\nb", "a\r\nb", "\r", "\x00", "\xff\xfe", "é", "\U0001f600", "=&%+", `"`, strings.Repeat("x", api.MaxText)} {
		want := s + "=" + s
		if s == "" {
			check(t, "an empty name", formOf(input("").with("name", s).holding(s)), 0, -1)
			continue
		}
		check(t, "a text field", formOf(input("").with("name", s).holding(s)), 0, -1, want)
		check(t, "a textarea", formOf(el("textarea", "", txt("text")).with("name", s).holding(s)), 0, -1, want)
		check(t, "a hidden one", formOf(input("type=hidden").with("name", s).with("value", s)), 0, -1, want)
		check(t, "a button", formOf(el("button", "", txt("text")).with("name", s).with("value", s)), 0, 1, want)
		check(t, "a checkbox", formOf(input("type=checkbox").with("name", s).with("value", s).checked()), 0, -1, want)
		check(t, "a select", formOf(el("select", "", el("option", "").with("value", s).selected()).with("name", s)), 0, -1, want)
	}
	check(t, "values that their kinds don't leave", formOf(input("type=date name=a").holding("x"), input("type=range name=b").holding(""), input("type=color name=c").holding("C")), 0, -1, "a=x", "b=", "c=C")
	check(t, "a value that is too long", formOf(input("name=a").holding(strings.Repeat("x", api.MaxText+1))), 0, -1, "a="+strings.Repeat("x", api.MaxText+1))
	check(t, "one name again and again", formOf(input("name=a").holding("2"), input("name=a").holding("1"), input("name=A").holding("1"), input("name=a").holding("2")), 0, -1, "a=2", "a=1", "A=1", "a=2")
	check(t, "an id is no name", formOf(input("id=a").holding("1"), input("names=a").holding("1")), 0, -1)
}

// TestP22_2 has each kind disabled, and each without a name, each as the submitter too.
func TestP22_2(t *testing.T) {
	for i, attrs := range []string{"name=n disabled", "", "name=", "id=n"} {
		for j, p := range everyControl(attrs + " value=v") {
			kind := j + 1
			p = p.holding("own").checked().files(api.Entry{FileName: "f"})
			if kind == api.KSelect {
				p.kids = []part{el("option", "value=o").selected()}
			}
			var want []string
			if kind == api.KImage && i > 0 {
				want = []string{"x=0", "y=0"}
			}
			check(t, attrs, formOf(p), 0, 1, want...)
			check(t, attrs, formOf(p), 0, -1)
			check(t, attrs, formOf(input("name=a"), p, input("name=b")), 0, -1, "a=", "b=")
		}
	}
}

func TestExamples(t *testing.T) {
	d := formOf(input("name=a").holding("1"), el("button", "name=b"))
	check(t, "by the button", d, 0, 2, "a=1", "b=")
	check(t, "without", d, 0, -1, "a=1")
}

// slowList goes by the chapter's numbers, one behind the other.
func slowList(d api.Doc, form, submitter int) ([]api.Entry, api.Errno) {
	l := d.Nodes
	if len(d.Nodes) != len(d.Ctls) || !tree.Right(l) || tree.Order(l, form) == nil {
		return nil, api.ErrNode
	}
	if kinds.Of(l[form]) != api.KForm {
		return nil, api.ErrKind
	}
	var out []api.Entry
	for _, id := range tree.Order(l, tree.Top(l, form)) {
		if kinds.Submits(kinds.Of(l[id])) && owner.Form(l, id) == form {
			out = append(out, slowEntries(d, id, submitter)...)
		}
	}
	return out, api.OK
}

func slowEntries(d api.Doc, id, submitter int) []api.Entry {
	l, kind, state := d.Nodes, kinds.Of(d.Nodes[id]), d.Ctls[id]
	name, _ := tree.Attr(l, id, "name")
	is := func(list ...int) bool { return slices.Contains(list, kind) }
	if tree.Up(l, id, "datalist") >= 0 || owner.Disabled(l, id) { // 1
		return nil
	}
	if is(api.KImage) { // 2
		ahead := strings.Repeat(name+".", min(len(name), 1))
		return []api.Entry{{Name: ahead + "x", Value: "0"}, {Name: ahead + "y", Value: "0"}}[:2*times(id == submitter)]
	}
	if name == "" { // 3
		return nil
	}
	if is(api.KButton, api.KReset, api.KResets, api.KPlain) || is(api.KSubmit, api.KSubmits) && id != submitter || is(api.KCheckbox, api.KRadio) && !state.Checked { // 4
		return nil
	}
	var out []api.Entry
	if is(api.KSelect) { // 5
		for _, opt := range option.List(l, id) {
			out = append(out, slices.Repeat([]api.Entry{{Name: name, Value: option.Text(l, opt)}}, times(d.Ctls[opt].Selected)*times(!option.Off(l, opt)))...)
		}
		return out
	}
	if is(api.KFile) { // 6
		for _, f := range state.Files {
			f.Name, f.File = name, true
			out = append(out, f)
		}
		if len(out) == 0 {
			out = []api.Entry{{Name: name, File: true, Type: "application/octet-stream"}}
		}
		return out
	}
	if is(api.KHidden) && name == "_charset_" { // 7
		return []api.Entry{{Name: name, Value: "UTF-8"}}
	}
	return []api.Entry{{Name: name, Value: control.Value(kind, state, l[id].Attrs)}} // 8
}

func times(b bool) int {
	if b {
		return 1
	}
	return 0
}

// draw is one of list.
func draw(r *rand.Rand, list ...string) string { return list[r.Intn(len(list))] }

// drawAttrs draws of the attributes that tell anything.
func drawAttrs(r *rand.Rand) []api.Attr {
	var out []api.Attr
	add := func(odds int, name string, values ...string) {
		if r.Intn(odds) == 0 {
			out = append(out, api.Attr{Name: name, Value: draw(r, values...)})
		}
	}
	add(1, "type", slices.Concat(inputTypes, []string{"image", "image", "image", "image", "image", "submit", "submit", "hidden", "radio", "checkbox", "file", "nothing"})...)
	add(12, "disabled", "")
	add(3, "value", "v", "w", "")
	add(4, "id", "f", "g", "")
	add(6, "form", "f", "g", "x")
	if r.Intn(6) > 0 {
		add(1, "name", "a", "b", "_charset_", "_charset_", "c d", "")
	}
	add(3, "multiple", "")
	add(8, "selected", "")
	add(8, "checked", "")
	r.Shuffle(len(out), func(i, j int) { out[i], out[j] = out[j], out[i] })
	return out
}

func drawState(r *rand.Rand) api.Ctl {
	c := api.Ctl{Value: draw(r, "", "own", "a\nb"), Custom: draw(r, "", "c")}
	for _, f := range []*bool{&c.Dirty, &c.Typed, &c.Checked, &c.Selected, &c.DirtySelected, &c.DirtyChecked, &c.Mixed} {
		*f = r.Intn(3) > 0
	}
	c.Files = []api.Entry{{FileName: "f", Type: "t", Value: "v", Name: "other"}, {}}[:r.Intn(3)]
	return c
}

// drawParent is any node, but most often a select for an option, and an option for a text.
func drawParent(r *rand.Rand, l []api.Node, child int) int {
	likely := map[string]string{"option": "select", "": "option"}
	parent := r.Intn(len(l))
	for range 9 {
		if wanted, ok := likely[l[child].Name]; ok && l[parent].Name != wanted {
			parent = r.Intn(len(l))
		}
	}
	return parent
}

// drawDoc puts nodes into one another in any way, by layer 10, so that their numbers don't stand in order, and some stand apart.
func drawDoc(r *rand.Rand) api.Doc {
	names := []string{"input", "input", "input", "input", "input", "input", "input", "input", "input", "select", "select", "select", "option", "option", "option", "option", "optgroup", "textarea", "button", "button", "form", "form", "form", "fieldset", "legend", "output", "datalist", "div", "", "", ""}
	l := []api.Node{{Name: draw(r, "form", "html", names[r.Intn(len(names)-3)]), Parent: -1, Attrs: drawAttrs(r)}}
	for n := r.Intn(24); n > 0; n-- {
		name := draw(r, names...)
		if name == "" {
			l, _, _ = tree.Add(l, name, draw(r, "x", " y  z "))
			continue
		}
		l, _, _ = tree.Add(l, name, "")
		l[len(l)-1].Attrs = drawAttrs(r)
	}
	for n := (1 + r.Intn(4)) * len(l); n > 0; n-- {
		child := r.Intn(len(l))
		if next, e := tree.Insert(l, drawParent(r, l, child), child, -1); e == api.OK {
			l = next
		}
	}
	d := api.Doc{Nodes: l}
	for range l {
		d.Ctls = append(d.Ctls, drawState(r))
	}
	return d
}

// TestP22_1Drawn holds List against the chapter's words for each form of drawn documents by each submitter, and sees that each of the words' numbers comes by.
func TestP22_1Drawn(t *testing.T) {
	r := rand.New(rand.NewSource(22))
	met := map[string]int{}
	for range 3000 {
		d := drawDoc(r)
		for form := -1; form <= len(d.Nodes); form++ {
			for submitter := -1; submitter <= len(d.Nodes); submitter++ {
				got, e := List(d, form, submitter)
				want, wantErr := slowList(d, form, submitter)
				if e != wantErr || !slices.Equal(got, want) {
					t.Fatalf("List of %d by %d of %+v is %+v, %d, not %+v, %d", form, submitter, d, got, e, want, wantErr)
				}
				for _, one := range want {
					met[one.Name+"="+one.Value+one.Type]++
				}
				if e != api.OK {
					break
				}
			}
		}
	}
	for _, s := range []string{"x=0", "a.x=0", "a=v", "a=", "a=own", "a=on", "a=vt", "a=application/octet-stream", "_charset_=UTF-8", "_charset_=v", "_charset_=own", "_charset_=x", "a=y z"} {
		if met[s] < 20 {
			t.Errorf("only %d entries %s were drawn", met[s], s)
		}
	}
}

// TestR1Odd asks of numbers that are no nodes, as forms and as submitters, in documents of any kind.
func TestR1Odd(t *testing.T) {
	docs := append(wrongDocs(), mixed(), formOf(), api.Doc{}, api.Doc{Ctls: make([]api.Ctl, 3)}, doc(txt("form")))
	for _, d := range docs {
		for _, form := range append(noNodes, 0, 1, len(d.Nodes)-1, len(d.Nodes)) {
			for _, submitter := range append(noNodes, 0, 1, len(d.Nodes)-1, len(d.Nodes)) {
				got, e := List(d, form, submitter)
				want, wantErr := slowList(d, form, submitter)
				if e != wantErr || !slices.Equal(got, want) {
					t.Fatalf("List of %d by %d is %+v, %d, not %+v, %d", form, submitter, got, e, want, wantErr)
				}
			}
		}
	}
}

// TestR1Most asks of as many nodes as there may be, in one form, each within the one ahead, or options of one select; and of many files.
func TestR1Most(t *testing.T) {
	var fields, options []part
	var files []api.Entry
	for i := range api.MaxNodes - 1 {
		fields = append(fields, input("name=n").holding(strconv.Itoa(i)))
		options = append(options, el("option", "value="+strconv.Itoa(i)).selected())
	}
	for range 100000 {
		files = append(files, api.Entry{FileName: "f"})
	}
	deep := input("name=n")
	for range api.MaxNodes - 2 {
		deep = input("name=n", deep)
	}
	for want, p := range map[int][]part{api.MaxNodes - 1: fields, api.MaxNodes - 2: {el("select", "name=s", options[1:]...)}, 100000: {input("type=file name=f").files(files...)}} {
		got, e := List(formOf(p...), 0, -1)
		if e != api.OK || len(got) != want {
			t.Errorf("of many there are %d, %d, not %d", len(got), e, want)
		}
	}
	if got, e := List(formOf(deep), 0, -1); e != api.OK || len(got) != api.MaxNodes-1 {
		t.Errorf("of many within one another there are %d, %d", len(got), e)
	}
	if got, e := List(doc(el("datalist", "", el("form", "", deep.kids...))), 1, -1); e != api.OK || got != nil {
		t.Errorf("of many within a list of data there are %d, %d", len(got), e)
	}
}

// roomy is a copy of list, with spare room behind it that is filled by more.
func roomy[T any](list []T, more ...T) []T {
	return append(slices.Clone(list), more...)[:len(list)]
}

// roomyDoc is a form of one control of each kind, each twice, with spare room behind each of its lists.
func roomyDoc() api.Doc {
	parts := everyControl("name=name value=attribute")
	for i, p := range parts {
		p.state = api.Ctl{Value: "value", Checked: true, Custom: "custom", Files: []api.Entry{{Name: "n", FileName: "file", Type: "type", Value: "content"}, {FileName: "second"}}}
		if p.name == "select" {
			p.kids = []part{el("option", "value=option").selected(), el("option", "", txt("text")).selected()}
		}
		parts[i] = p
	}
	parts = append(parts, input("type=image"), input("type=hidden name=_charset_"), input("type=hidden name=_charset_"), input("type=file name=empty"), input("type=file name=empty"), input("type=checkbox name=box").checked())
	d := formOf(slices.Concat(parts, parts)...)
	for i := range d.Nodes {
		d.Nodes[i].Attrs = roomy(d.Nodes[i].Attrs, api.Attr{Name: "name", Value: "spare"})
		d.Nodes[i].Kids = roomy(d.Nodes[i].Kids, 77, 78)
		d.Ctls[i].Files = roomy(d.Ctls[i].Files, api.Entry{FileName: "spare"})
	}
	return api.Doc{Nodes: roomy(d.Nodes, api.Node{Name: "spare"}), Ctls: roomy(d.Ctls, api.Ctl{Checked: true})}
}

// wholly is all of d, up to the ends of its spare rooms.
func wholly(d api.Doc) api.Doc {
	all := api.Doc{Nodes: slices.Clone(d.Nodes[:cap(d.Nodes)]), Ctls: slices.Clone(d.Ctls[:cap(d.Ctls)])}
	for i := range all.Nodes {
		n := &all.Nodes[i]
		n.Attrs, n.Kids = slices.Clone(n.Attrs[:cap(n.Attrs)]), slices.Clone(n.Kids[:cap(n.Kids)])
	}
	for i := range all.Ctls {
		all.Ctls[i].Files = slices.Clone(all.Ctls[i].Files[:cap(all.Ctls[i].Files)])
	}
	return all
}

func TestR4Lists(t *testing.T) {
	d := roomyDoc()
	was := wholly(d)
	for id := range d.Nodes {
		first, _ := List(d, 0, id)
		second, _ := List(d, 0, id)
		for i := range first[:cap(first)] {
			first[:cap(first)][i] = api.Entry{Name: "changed"}
		}
		third, _ := List(d, 0, id)
		want, _ := slowList(d, 0, id)
		if !slices.Equal(second, want) || !slices.Equal(third, want) {
			t.Errorf("by %d: %+v, then %+v, not %+v", id, second, third, want)
		}
	}
	if !reflect.DeepEqual(wholly(d), was) {
		t.Error("what was handed in is changed")
	}
}

// TestR4Texts holds that no two texts of the answers lie at one place, nor where what was handed in does.
func TestR4Texts(t *testing.T) {
	d := roomyDoc()
	taken := map[*byte]string{}
	for i, n := range d.Nodes {
		for _, a := range n.Attrs {
			taken[unsafe.StringData(a.Value)] = a.Value
		}
		for _, f := range d.Ctls[i].Files {
			for _, s := range []string{f.Name, f.FileName, f.Type, f.Value} {
				taken[unsafe.StringData(s)] = s
			}
		}
		taken[unsafe.StringData(d.Ctls[i].Value)] = d.Ctls[i].Value
		taken[unsafe.StringData(n.Text)] = n.Text
	}
	met := map[string]int{}
	for id := range d.Nodes {
		for range 2 {
			l, _ := List(d, 0, id)
			for _, e := range l {
				for _, s := range []string{e.Name, e.Value, e.FileName, e.Type} {
					if s == "" {
						continue
					}
					if _, shared := taken[unsafe.StringData(s)]; shared {
						t.Fatalf("by %d: %q shares memory", id, s)
					}
					taken[unsafe.StringData(s)] = s
					met[s]++
				}
			}
		}
	}
	for _, s := range []string{"x", "y", "0", "name.x", "name", "value", "attribute", "on", "UTF-8", "_charset_", "file", "type", "content", "second", "option", "text", "application/octet-stream"} {
		if met[s] < 2 {
			t.Errorf("only %d texts %q were asked", met[s], s)
		}
	}
}
