package valid

import (
	"math"
	"math/rand"
	"reflect"
	"regexp"
	"slices"
	"strconv"
	"strings"
	"testing"
	"unsafe"

	"counterfoil/api"
	"counterfoil/control"
	"counterfoil/group"
	"counterfoil/kinds"
	"counterfoil/link"
	"counterfoil/mail"
	"counterfoil/option"
	"counterfoil/owner"
	"counterfoil/pattern"
	"counterfoil/step"
	"counterfoil/text"
	"counterfoil/tree"
)

// noNodes are numbers that no document's nodes have, such among them as would be one if they were cut.
var noNodes = []int{-1, -2, -400, api.MaxNodes, api.MaxNodes + 1, 1 << 16, 1 << 31, -1 << 31, 1 << 32, 1<<32 + 2, -1<<32 + 2, math.MaxInt, math.MinInt, math.MinInt + 2}

// inputTypes are all that an input may have, in the order of their kinds.
var inputTypes = []string{"hidden", "text", "search", "tel", "url", "email", "password", "date", "month", "week", "time", "datetime-local", "number", "range", "color", "checkbox", "radio", "file", "submit", "image", "reset", "button"}

// otherNames are those of elements that aren't submitted.
var otherNames = []string{"output", "fieldset", "form", "label", "option", "optgroup", "legend", "datalist", "div", "object", "inputs"}

// part is a node with what is within it and its state; a text, if its name is empty.
type part struct {
	name, text string
	attrs      []api.Attr
	state      api.Ctl
	kids       []part
}

// el is an element with attributes told as "name=value", or "name" alone, with blanks between.
func el(name, attrs string, kids ...part) part {
	p := part{name: name, kids: kids}
	for _, a := range strings.Fields(attrs) {
		n, v, _ := strings.Cut(a, "=")
		p.attrs = append(p.attrs, api.Attr{Name: n, Value: v})
	}
	return p
}

func input(attrs string, kids ...part) part { return el("input", attrs, kids...) }

func txt(s string) part { return part{text: s} }

// with is p with one more attribute, whose value may hold anything.
func (p part) with(name, value string) part {
	p.attrs = append(slices.Clone(p.attrs), api.Attr{Name: name, Value: value})
	return p
}

func (p part) in(state api.Ctl) part {
	p.state = state
	return p
}

func (p part) holding(value string) part {
	p.state.Value = value
	return p
}

// typed is p with a value that a person wrote.
func (p part) typed(value string) part {
	p.state.Value, p.state.Dirty, p.state.Typed = value, true, true
	return p
}

func (p part) checked() part {
	p.state.Checked = true
	return p
}

func (p part) selected() part {
	p.state.Selected = true
	return p
}

// told is p with something that was told to be wrong with it.
func (p part) told() part {
	p.state.Custom = "wrong"
	return p
}

// put numbers the parts in order, from the last node of d on.
func put(d api.Doc, p part, parent int) api.Doc {
	id := len(d.Nodes)
	d.Nodes = append(d.Nodes, api.Node{Name: p.name, Text: p.text, Attrs: p.attrs, Parent: parent})
	d.Ctls = append(d.Ctls, p.state)
	for _, kid := range p.kids {
		d.Nodes[id].Kids = append(d.Nodes[id].Kids, len(d.Nodes))
		d = put(d, kid, id)
	}
	return d
}

// doc is a document of trees that stand apart; node 0 is the first one's top.
func doc(trees ...part) api.Doc {
	var d api.Doc
	for _, p := range trees {
		d = put(d, p, -1)
	}
	return d
}

// alone is a document of html, and p within it, as node 1.
func alone(p part) api.Doc { return doc(el("html", "", p)) }

// everyControl is one of each kind that is submitted, in the kinds' order, each with those attributes.
func everyControl(attrs string) []part {
	var out []part
	for _, t := range inputTypes {
		out = append(out, input("type="+t+" "+attrs))
	}
	out = append(out, el("select", attrs), el("textarea", attrs))
	return append(out, el("button", attrs), el("button", "type=reset "+attrs), el("button", "type=button "+attrs))
}

// checkFlags asks of node id alone, and holds Valid against what is told, if it isn't barred.
func checkFlags(t *testing.T, why string, d api.Doc, id, want int) {
	t.Helper()
	if got := Flags(d, id); got != want {
		t.Errorf("%s: Flags is %d, not %d", why, got, want)
	}
	if got := Valid(d, id); !Barred(d.Nodes, id) && got != (want == 0) {
		t.Errorf("%s: Valid is %v, and the flags are %d", why, got, want)
	}
}

// TestP18_1_Bits holds the bits, each by a control of which just one flag holds.
func TestP18_1_Bits(t *testing.T) {
	for want, p := range map[int]part{
		1:   input("required"),
		2:   input("type=url").holding("a"),
		4:   input("pattern=b").holding("a"),
		8:   input("maxlength=1").typed("ab"),
		16:  input("minlength=3").typed("ab"),
		32:  input("type=number min=5").holding("4"),
		64:  input("type=number max=3").holding("4"),
		128: input("type=number step=3").holding("4"),
		256: input("").told(),
	} {
		checkFlags(t, strconv.Itoa(want), alone(p), 1, want)
	}
}

// TestP18_1_Together holds that flags are put together, and that none hides another one.
func TestP18_1_Together(t *testing.T) {
	for i, c := range []struct {
		p    part
		want int
	}{
		{input("required").told(), 1 + 256},
		{input("type=email pattern=b maxlength=2").typed("aaa"), 2 + 4 + 8},
		{input("type=url pattern=b minlength=4").typed("aaa").told(), 2 + 4 + 16 + 256},
		{input("minlength=4 maxlength=2").typed("aaa"), 8 + 16},
		{input("type=number min=5 max=3 step=3").holding("4"), 32 + 64 + 128},
		{input("type=number min=5 step=2 required").holding("4").told(), 32 + 128 + 256},
		{input("type=date min=2020-01-01 step=2").holding("2020-01-02"), 128},
		{input("required pattern=b minlength=4 maxlength=0").typed("").told(), 1 + 256},
		{input("required pattern=b minlength=4 maxlength=0").typed("a").told(), 4 + 8 + 16 + 256},
		{input("type=email multiple pattern=x minlength=9 maxlength=2").typed("a,b").told(), 2 + 4 + 8 + 16 + 256},
	} {
		checkFlags(t, strconv.Itoa(i), alone(c.p), 1, c.want)
	}
}

// TestP18_1_Kinds holds for each kind which of the flags it may have, and when it is barred. Its value is one that a control of the kind has, or, where that is none of its own, is told besides.
func TestP18_1_Kinds(t *testing.T) {
	count := []int{api.KDate, api.KMonth, api.KWeek, api.KTime, api.KLocal, api.KNumber, api.KRange}
	barred := []int{api.KHidden, api.KReset, api.KButton, api.KResets, api.KPlain}
	for i, p := range everyControl("required readonly pattern=b minlength=9 maxlength=1 min=5 max=3 step=7") {
		kind := i + 1
		lines := kind >= api.KText && kind <= api.KPassword
		read := lines || kind >= api.KDate && kind <= api.KNumber || kind == api.KArea
		empty := 0
		if slices.Contains([]int{api.KCheckbox, api.KRadio, api.KFile, api.KSelect}, kind) {
			empty = 1
		}
		checkFlags(t, "empty, kind "+strconv.Itoa(kind), alone(p), 1, empty)
		want := empty
		if lines || kind == api.KArea {
			want |= 8 + 16
		}
		if lines {
			want |= 4
		}
		if kind == api.KURL || kind == api.KEmail {
			want |= 2
		}
		checkFlags(t, "typed, kind "+strconv.Itoa(kind), alone(p.typed("aa")), 1, want)
		checkFlags(t, "told, kind "+strconv.Itoa(kind), alone(p.typed("aa").told()), 1, want|256)
		d := alone(p.typed("4"))
		if got := Flags(d, 1) & (32 + 64 + 128); (got != 0) != (slices.Contains(count, kind) && kind >= api.KNumber) {
			t.Errorf("kind %d: of bounds and steps the flags are %d", kind, got)
		}
		if got := Barred(d.Nodes, 1); got != (read || slices.Contains(barred, kind)) {
			t.Errorf("kind %d, readonly: Barred is %v", kind, got)
		}
	}
	for i, p := range everyControl("required disabled pattern=b") {
		d := alone(p.told())
		if !Barred(d.Nodes, 1) || !Valid(d, 1) || Flags(d, 1)&256 == 0 {
			t.Errorf("kind %d, disabled: it isn't barred, or has no flags", i+1)
		}
	}
	for i, p := range everyControl("") {
		if d := alone(p); Barred(d.Nodes, 1) != slices.Contains(barred, i+1) || Flags(d, 1) != 0 || !Valid(d, 1) {
			t.Errorf("kind %d, without attributes: Barred is %v", i+1, !slices.Contains(barred, i+1))
		}
	}
}

// TestP18_1_Others asks what isn't submitted: it is barred, and nothing is wrong with it.
func TestP18_1_Others(t *testing.T) {
	all := api.Ctl{Value: "aa", Dirty: true, Typed: true, Custom: "x", Files: []api.Entry{{FileName: "f"}}}
	for _, name := range otherNames {
		for _, attrs := range []string{"", "required pattern=b maxlength=1 minlength=9 type=email min=5 max=3", "type=text", "disabled", "readonly"} {
			d := alone(el(name, attrs).in(all))
			if Flags(d, 1) != 0 || !Barred(d.Nodes, 1) || !Valid(d, 1) {
				t.Errorf("%s %s: %d %v %v", name, attrs, Flags(d, 1), Barred(d.Nodes, 1), Valid(d, 1))
			}
		}
	}
	if d := alone(txt("input").in(all)); Flags(d, 1) != 0 || !Barred(d.Nodes, 1) || !Valid(d, 1) || Value(d, 1) != "" {
		t.Error("a text is a control")
	}
}

func TestP18_1_Barred(t *testing.T) {
	for _, c := range []struct {
		why  string
		d    api.Doc
		id   int
		want bool
	}{
		{"a text field", alone(input("")), 1, false},
		{"of a type that isn't known", alone(input("type=nothing")), 1, false},
		{"capitals of the type", alone(input("type=HiDDen")), 1, true},
		{"disabled", alone(input("disabled")), 1, true},
		{"disabled=false", alone(input("disabled=false")), 1, true},
		{"readonly", alone(input("readonly")), 1, true},
		{"readonly=false", alone(input("readonly=false")), 1, true},
		{"readonly textarea", alone(el("textarea", "readonly")), 1, true},
		{"readonly select", alone(el("select", "readonly")), 1, false},
		{"readonly checkbox", alone(input("type=checkbox readonly")), 1, false},
		{"readonly radio button", alone(input("type=radio readonly")), 1, false},
		{"readonly range", alone(input("type=range readonly")), 1, false},
		{"readonly colour", alone(input("type=color readonly")), 1, false},
		{"readonly file", alone(input("type=file readonly")), 1, false},
		{"readonly number", alone(input("type=number readonly")), 1, true},
		{"readonly submit", alone(input("type=submit readonly")), 1, false},
		{"in a datalist", alone(el("datalist", "", input(""))), 2, true},
		{"deep in a datalist", alone(el("datalist", "", el("div", "", el("p", "", el("select", ""))))), 4, true},
		{"beside a datalist", alone(el("div", "", el("datalist", ""), input(""))), 3, false},
		{"the top is a datalist", doc(el("datalist", "", input(""))), 1, true},
		{"the top is a datalist, apart", doc(el("html", ""), el("datalist", "", input(""))), 2, true},
		{"with a datalist within it", doc(input("", el("datalist", ""))), 0, false},
		{"a datalist alone", alone(el("datalist", "")), 1, true},
		{"apart", doc(el("html", ""), input("")), 1, false},
		{"apart, and disabled", doc(el("html", ""), input("disabled")), 1, true},
		{"node 0", doc(input("")), 0, false},
		{"in a disabled fieldset", alone(el("fieldset", "disabled", el("div", "", input("")))), 3, true},
		{"in a disabled fieldset's legend", alone(el("fieldset", "disabled", el("legend", "", input("")))), 3, false},
		{"in its second legend", alone(el("fieldset", "disabled", el("legend", ""), el("legend", "", input("")))), 4, true},
		{"in a fieldset", alone(el("fieldset", "", input(""))), 2, false},
		{"in a disabled form", alone(el("form", "disabled", input(""))), 2, false},
		{"in a readonly form", alone(el("form", "readonly", input(""))), 2, false},
	} {
		if got := Barred(c.d.Nodes, c.id); got != c.want {
			t.Errorf("%s: Barred is %v", c.why, got)
		}
		c.d.Ctls[c.id].Custom = "x"
		if got := Valid(c.d, c.id); got != c.want {
			t.Errorf("%s: Valid is %v", c.why, got)
		}
		if got := Flags(c.d, c.id); kinds.Submits(kinds.Of(c.d.Nodes[c.id])) && got != 256 {
			t.Errorf("%s: Flags is %d", c.why, got)
		}
	}
}

func TestP18_1_Value(t *testing.T) {
	files := []api.Entry{{Name: "n", Value: "v", File: true, FileName: "a.txt"}, {FileName: "b"}}
	full := api.Ctl{Value: "own", Checked: true, Custom: "c", Files: files}
	for _, c := range []struct {
		p    part
		want string
	}{
		{input("value=x").in(full), "own"}, {input("type=nothing value=x").in(full), "own"}, {input("type=email").in(full), "own"}, {input("type=range").in(full), "own"}, {input("type=number").in(full), "own"},
		{el("textarea", "value=x", txt("y")).in(full), "own"}, {el("output", "value=x", txt("y")).in(full), "own"},
		{input("type=checkbox value=x").in(full), "x"}, {input("type=checkbox").in(full), "on"}, {input("type=radio value=").in(full), ""}, {input("type=radio"), "on"},
		{input("type=hidden value=x").in(full), "x"}, {input("type=hidden").in(full), ""}, {input("type=submit value=x").in(full), "x"}, {input("type=image value=x").in(full), "x"}, {input("type=button").in(full), ""},
		{el("button", "value=x").in(full), "x"}, {el("button", "type=reset value=x").in(full), "x"}, {el("button", "type=button").in(full), ""},
		{input("type=file value=x").in(full), `C:\fakepath\a.txt`}, {input("type=file value=x"), ""},
		{el("select", "value=x").in(full), ""}, {el("select", "", el("option", "value=x")).in(full), ""},
		{el("select", "", el("option", "value=x"), el("option", "value=y").selected()).in(full), "y"},
		{el("select", "", el("option", "value=x"), el("option", "", txt(" a  b ")).selected()), "a b"},
		{el("select", "multiple", el("option", "value=x").selected(), el("option", "value=y").selected()), "x"},
		{el("select", "", el("optgroup", "", el("option", "value=x").selected())), "x"},
		{el("option", "value=x").in(full), ""}, {el("fieldset", "value=x").in(full), ""}, {el("form", "value=x").in(full), ""}, {el("div", "value=x").in(full), ""}, {txt("own").in(full), ""},
	} {
		if got := Value(alone(c.p), 1); got != c.want {
			t.Errorf("Value of %+v is %q, not %q", c.p, got, c.want)
		}
	}
}

func TestP18_1_Missing(t *testing.T) {
	file := api.Ctl{Files: []api.Entry{{}}}
	for _, c := range []struct {
		p    part
		want int
	}{
		{input("required"), 1}, {input(""), 0}, {input("required=false"), 1}, {input("required value=x"), 1}, {input("required").holding("x"), 0}, {input("required").holding(" "), 0},
		{input("required").in(api.Ctl{Dirty: true, Typed: true, Checked: true, Selected: true, Files: file.Files}), 1},
		{input("required disabled"), 0}, {input("required readonly"), 0}, {input("required readonly").holding("x"), 0}, {input("type=number required readonly"), 0},
		{input("type=search required"), 1}, {input("type=tel required"), 1}, {input("type=url required"), 1}, {input("type=email required"), 1}, {input("type=password required"), 1},
		{input("type=date required"), 1}, {input("type=month required"), 1}, {input("type=week required"), 1}, {input("type=time required"), 1}, {input("type=datetime-local required"), 1}, {input("type=number required"), 1},
		{input("type=range required"), 0}, {input("type=color required"), 0}, {input("type=hidden required"), 0}, {input("type=submit required"), 0}, {input("type=image required"), 0}, {input("type=button required"), 0},
		{el("textarea", "required"), 1}, {el("textarea", "required").holding("\n"), 0}, {el("textarea", "required", txt("x")), 1}, {el("textarea", "required readonly"), 0}, {el("textarea", "required disabled"), 0},
		{el("button", "required"), 0},
		{input("type=checkbox required"), 1}, {input("type=checkbox required").checked(), 0}, {input("type=checkbox required checked"), 1}, {input("type=checkbox"), 0}, {input("type=checkbox required readonly"), 1}, {input("type=checkbox required disabled"), 1}, {input("type=checkbox required").in(api.Ctl{Mixed: true, Value: "x", Selected: true}), 1},
		{input("type=file required"), 1}, {input("type=file required").in(file), 0}, {input("type=file required value=x").holding("x"), 1}, {input("type=file"), 0}, {input("type=file required disabled"), 1}, {input("type=file required").in(api.Ctl{Files: []api.Entry{}}), 1},
		{input("type=radio required"), 1}, {input("type=radio required").checked(), 0}, {input("type=radio required checked"), 1}, {input("type=radio"), 0}, {input("type=radio required disabled"), 1}, {input("type=radio required readonly name="), 1}, {input("type=radio required").in(api.Ctl{Value: "x", Selected: true}), 1},
	} {
		checkFlags(t, c.p.name+" "+strings.Join(attrsOf(c.p), " "), alone(c.p), 1, c.want)
	}
	inFieldset := alone(el("fieldset", "disabled", el("legend", "", input("required")), input("required")))
	checkFlags(t, "in the legend of a disabled fieldset", inFieldset, 3, 1)
	checkFlags(t, "in a disabled fieldset", inFieldset, 4, 0)
	checkFlags(t, "in a datalist", alone(el("datalist", "", input("required"))), 2, 1)
}

func attrsOf(p part) []string {
	var out []string
	for _, a := range p.attrs {
		out = append(out, a.Name+"="+a.Value)
	}
	return out
}

func TestP18_1_MissingGroup(t *testing.T) {
	a, must := input("type=radio name=a"), input("type=radio name=a required")
	for _, c := range []struct {
		why  string
		d    api.Doc
		want []int // the nodes that are missing
	}{
		{"another one is required", doc(el("html", "", a, must, a)), []int{1, 2, 3}},
		{"all are required", doc(el("html", "", must, must)), []int{1, 2}},
		{"none is required", doc(el("html", "", a, a)), nil},
		{"itself is checked", doc(el("html", "", a, must.checked())), nil},
		{"another one is checked", doc(el("html", "", must, a.checked(), a)), nil},
		{"all are checked", doc(el("html", "", must.checked(), a.checked())), nil},
		{"one of another name is checked", doc(el("html", "", must, input("type=radio name=b").checked())), []int{1}},
		{"one of another name is required", doc(el("html", "", a, input("type=radio name=b required").checked())), nil},
		{"one of another form is checked", doc(el("html", "", el("form", "", must, a), el("form", "", a.checked()), a.checked())), []int{2, 3}},
		{"one of another form is required", doc(el("html", "", el("form", "", a), el("form", "", must, a), a)), []int{4, 5}},
		{"one that tells the form", doc(el("html", "", el("form", "id=f", a), must.with("form", "f"))), []int{2, 3}},
		{"one that tells the form is checked", doc(el("html", "", el("form", "id=f", must), a.with("form", "f").checked())), nil},
		{"a checkbox of the name is required", doc(el("html", "", a, input("type=checkbox name=a required").checked())), nil},
		{"a checkbox of the name is checked", doc(el("html", "", must, input("type=checkbox name=a").checked())), []int{1}},
		{"a text field of the name is required", doc(el("html", "", a, input("name=a required").holding("x"))), nil},
		{"without names", doc(el("html", "", input("type=radio required"), input("type=radio"), input("type=radio").checked(), input("type=radio name="))), []int{1}},
		{"in trees apart", doc(el("html", "", a, a.checked()), el("div", "", must, a), must.checked(), a), []int{4, 5}},
		{"the required one is disabled", doc(el("html", "", must.with("disabled", ""), a)), []int{1, 2}},
		{"the checked one is disabled", doc(el("html", "", must, a.checked().with("disabled", ""))), nil},
		{"capitals of the type", doc(el("html", "", input("type=RADIO name=a required"), a)), []int{1, 2}},
	} {
		for id := range c.d.Nodes {
			want := 0
			if slices.Contains(c.want, id) {
				want = 1
			}
			checkFlags(t, c.why+", "+strconv.Itoa(id), c.d, id, want)
		}
	}
}

func TestP18_1_MissingSelect(t *testing.T) {
	empty, a := el("option", "value="), el("option", "value=a")
	for _, c := range []struct {
		why  string
		p    part
		want int
	}{
		{"no options", el("select", "required"), 1},
		{"none selected", el("select", "required", a, empty), 1},
		{"not required", el("select", "", empty.selected()), 0},
		{"not required, none selected", el("select", "", a), 0},
		{"one that isn't empty", el("select", "required", a.selected()), 0},
		{"an empty first one", el("select", "required", empty.selected(), a), 1},
		{"an empty first one, and another", el("select", "required", empty.selected(), a.selected()), 0},
		{"an empty first one, and an empty other", el("select", "required", empty.selected(), a, empty.selected()), 0},
		{"an empty second one", el("select", "required", a, empty.selected()), 0},
		{"an empty second one behind an empty first one", el("select", "required", empty, empty.selected()), 0},
		{"a first one, and another", el("select", "required", a.selected(), empty.selected()), 0},
		{"an empty text", el("select", "required", el("option", "").selected()), 1},
		{"a text of blanks", el("select", "required", el("option", "", txt(" \n\t")).selected()), 1},
		{"a text", el("select", "required", el("option", "", txt(" a ")).selected()), 0},
		{"a text, but an empty value", el("select", "required", el("option", "value=", txt("a")).selected()), 1},
		{"a value that is a blank", el("select", "required", el("option", "").with("value", " ").selected()), 0},
		{"multiple, none selected", el("select", "required multiple", empty), 1},
		{"multiple, an empty first one", el("select", "required multiple", empty.selected(), a), 0},
		{"multiple of size 1, an empty first one", el("select", "required multiple size=1", empty.selected(), a), 0},
		{"size 1", el("select", "required size=1", empty.selected(), a), 1},
		{"size 0 is none", el("select", "required size=0", empty.selected(), a), 1},
		{"size 2", el("select", "required size=2", empty.selected(), a), 0},
		{"size 2, none selected", el("select", "required size=2", empty, a), 1},
		{"size x is none", el("select", "required size=x", empty.selected(), a), 1},
		{"in a group", el("select", "required", el("optgroup", "", empty.selected()), a), 0},
		{"in a group, none selected", el("select", "required", el("optgroup", "", empty), a), 1},
		{"ahead of a group", el("select", "required", empty.selected(), el("optgroup", "", a)), 1},
		{"behind an empty group", el("select", "required", el("optgroup", ""), empty.selected(), a), 1},
		{"behind what is no option", el("select", "required", txt("x"), el("div", "", a), empty.selected(), a), 1},
		{"an option that isn't the select's", el("select", "required", el("div", "", a.selected())), 1},
		{"an empty first one that is off", el("select", "required", empty.selected().with("disabled", "")), 1},
		{"one that is off", el("select", "required", a.selected().with("disabled", "")), 0},
		{"an attribute alone", el("select", "required", a.with("selected", "")), 1},
		{"disabled", el("select", "required disabled", a), 1},
		{"readonly", el("select", "required readonly", a), 1},
		{"its own state", el("select", "required", a).in(api.Ctl{Value: "x", Selected: true, Checked: true}), 1},
	} {
		checkFlags(t, c.why, alone(c.p), 1, c.want)
	}
}

func TestP18_1_Type(t *testing.T) {
	for _, c := range []struct {
		attrs, value string
		want         int
	}{
		{"type=url", "", 0}, {"type=url", "a", 2}, {"type=url", "/a", 2}, {"type=url", "a:b", 0}, {"type=url", "http:a", 2}, {"type=url", "http://a/", 0}, {"type=url", " a:b", 2}, {"type=url multiple", "a:b,c:d", 0}, {"type=url multiple", "x,y", 2}, {"type=URL", "a", 2},
		{"type=email", "", 0}, {"type=email", "a", 2}, {"type=email", "a@b", 0}, {"type=email", "a@b,c@d", 2}, {"type=email", " a@b", 2}, {"type=email", ",", 2},
		{"type=email multiple", "", 0}, {"type=email multiple", "a@b", 0}, {"type=email multiple", "a@b,c@d", 0}, {"type=email multiple", " a@b , c@d", 0}, {"type=email multiple", "a@b,", 2}, {"type=email multiple", ",", 2}, {"type=email multiple", "a@b,c", 2}, {"type=email multiple", "a", 2}, {"type=email multiple=false", "a@b,c@d", 0},
		{"type=text", "a", 0}, {"type=text multiple", "a", 0}, {"type=search", "a", 0}, {"type=tel", "a", 0}, {"type=password", "a", 0}, {"type=number", "a", 0}, {"type=date", "a", 0}, {"type=color", "a", 0}, {"type=range", "a", 0},
		{"type=checkbox", "a", 0}, {"type=hidden value=a", "a", 0}, {"type=submit value=a", "a", 0},
	} {
		checkFlags(t, c.attrs+" "+c.value, alone(input(c.attrs).holding(c.value)), 1, c.want)
		checkFlags(t, "typed, "+c.attrs+" "+c.value, alone(input(c.attrs).typed(c.value)), 1, c.want)
		checkFlags(t, "readonly, "+c.attrs+" "+c.value, alone(input(c.attrs+" readonly").holding(c.value)), 1, c.want)
	}
}

func TestP18_1_Pattern(t *testing.T) {
	for _, c := range []struct {
		attrs, pattern, value string
		want                  int
	}{
		{"", "b", "a", 4}, {"", "b", "b", 0}, {"", "b", "", 0}, {"", "b", "ab", 4}, {"", "b", "bb", 4}, {"", "", "a", 4}, {"", "", "", 0}, {"", "a|", "a", 0},
		{"", "(", "a", 0}, {"", "a{2", "b", 0}, {"", "^b$", "a", 0}, {"", strings.Repeat("b", 200), "a", 4}, {"", strings.Repeat("b", 201), "a", 0}, {"", "\xff", "a", 0},
		{"", `\d{2}`, "42", 0}, {"", `\d{2}`, "421", 4}, {"", ".", "\U0001f600", 0}, {"", "..", "\U0001f600", 4}, {"", "\ufffd", "\xff", 0}, {"", ".*", strings.Repeat("a", api.MaxText), 0},
		{"type=search", "b", "a", 4}, {"type=tel", "b", "a", 4}, {"type=password", "b", "a", 4}, {"type=url", "b:.*", "a:b", 4}, {"type=url", ".*:b", "a:b", 0}, {"type=nothing", "b", "a", 4},
		{"type=email", "a.*", "a@b", 0}, {"type=email", "b.*", "a@b", 4},
		{"type=email multiple", "a.*", "a@b", 0}, {"type=email multiple", "a.*", "a@b,a@d", 0}, {"type=email multiple", "a.*", "a@b,c@d", 4}, {"type=email multiple", "c.*", "a@b,c@d", 4}, {"type=email multiple", ".*,.*", "a@b,c@d", 4}, {"type=email multiple", "a@b,c@d", "a@b,c@d", 4}, {"type=email multiple", "a.*", "", 0}, {"type=email multiple", "(", "a@b,c@d", 0},
		{"type=email multiple", "...", "a@b,c@d", 0}, {"type=email multiple", "...", "a@b, c@d", 4}, {"type=email multiple", "....?", "a@b, c@d", 0},
		{"multiple", "...,...", "a@b,c@d", 0}, {"multiple", "...", "a@b,c@d", 4}, {"type=url multiple", "...", "a:b,c:d", 4}, {"type=url multiple", ".*,.*", "a:b,c:d", 0},
		{"type=number", "b", "4", 0}, {"type=date", "b", "2020-01-01", 0}, {"type=range", "b", "4", 0}, {"type=color", "b", "#000000", 0}, {"type=checkbox", "b", "a", 0}, {"type=hidden value=a", "b", "a", 0}, {"type=submit value=a", "b", "a", 0}, {"type=file", "b", "a", 0},
	} {
		p := input(c.attrs).with("pattern", c.pattern).holding(c.value)
		checkFlags(t, c.attrs+" pattern "+c.pattern+" of "+c.value, alone(p), 1, c.want)
	}
	commas := input("type=email multiple").with("pattern", "a*").holding("a,,a")
	checkFlags(t, "an empty text between commas, which fits", alone(commas), 1, 2)
	commas = input("type=email multiple").with("pattern", "a+").holding("a,,a")
	checkFlags(t, "an empty text between commas, which doesn't fit", alone(commas), 1, 2+4)
	for _, p := range []part{el("textarea", "pattern=b").holding("a"), el("select", "pattern=b", el("option", "value=a").selected()), el("button", "pattern=b value=a")} {
		checkFlags(t, p.name, alone(p), 1, 0)
	}
	checkFlags(t, "no pattern", alone(input("").holding("a")), 1, 0)
	checkFlags(t, "readonly and disabled", alone(input("pattern=b readonly disabled").holding("a")), 1, 4)
}

// TestP18_1_Length goes about what is a length, and how long a text is; both flags have it in common.
func TestP18_1_Length(t *testing.T) {
	smile := "\U0001f600"
	for _, c := range []struct {
		length, value string
		long, short   bool
	}{
		{"0", "a", true, false}, {"0", "", false, false}, {"1", "", false, false}, {"1", "a", false, false}, {"1", "ab", true, false}, {"2", "a", false, true}, {"2", "ab", false, false}, {"000002", "abc", true, false}, {"02", "a", false, true},
		{"12", strings.Repeat("a", 11), false, true}, {"12", strings.Repeat("a", 12), false, false}, {"12", strings.Repeat("a", 13), true, false}, {"999999", "a", false, true}, {"100000", "a", false, true},
		{"", "a", false, false}, {"x", "a", false, false}, {"-1", "a", false, false}, {"+0", "a", false, false}, {"0x", "a", false, false}, {" 0", "a", false, false}, {"0 ", "a", false, false}, {"0.0", "a", false, false}, {"0000000", "a", false, false}, {"0000009", "a", false, false}, {"1000000", "a", false, false}, {"9999999", "a", false, false}, {"99999999999999999999", "a", false, false}, {"1e2", "a", false, false}, {"٢", "a", false, false}, {"/", "a", false, false}, {":", "a", false, false}, {"1/", "a", false, false}, {"1:", "a", false, false},
		{"2", "é", false, true}, {"2", "ééé", true, false}, {"2", smile, false, false}, {"1", smile, true, false}, {"3", smile, false, true}, {"2", "\xff\xff", false, false}, {"1", "\xff\xff", true, false},
		{"4000", strings.Repeat("a", 4000), false, false}, {"3999", strings.Repeat("a", 4000), true, false}, {"4001", strings.Repeat("a", 4000), false, true},
	} {
		for _, p := range []part{input(""), input("type=password"), el("textarea", "")} {
			for name, flag := range map[string]int{"maxlength": 8, "minlength": 16} {
				want := 0
				if name == "maxlength" && c.long || name == "minlength" && c.short {
					want = flag
				}
				why := p.name + " " + name + "=" + c.length + " of " + c.value
				q := p.with(name, c.length)
				checkFlags(t, why, alone(q.typed(c.value)), 1, want)
				checkFlags(t, why+", readonly", alone(q.with("readonly", "").typed(c.value)), 1, want)
				checkFlags(t, why+", that nobody wrote", alone(q.holding(c.value)), 1, 0)
				checkFlags(t, why+", that a program wrote", alone(q.in(api.Ctl{Value: c.value, Dirty: true})), 1, 0)
				checkFlags(t, why+", that isn't dirty", alone(q.in(api.Ctl{Value: c.value, Typed: true})), 1, 0)
			}
		}
	}
	area := el("textarea", "minlength=3 maxlength=3")
	checkFlags(t, "an end of a line is one unit", alone(area.typed("a\nb")), 1, 0)
	checkFlags(t, "an end of a line is one unit", alone(area.typed("a\n")), 1, 16)
	checkFlags(t, "an end of a line is one unit", alone(area.typed("a\n\nb")), 1, 8)
	for _, kind := range []string{"number", "date", "range", "color", "checkbox", "hidden", "file", "submit"} {
		p := input("type=" + kind + " maxlength=1 minlength=5 value=4444 step=any")
		checkFlags(t, kind, alone(p.typed("44")), 1, 0)
	}
	for _, kind := range []string{"text", "search", "tel", "password"} {
		checkFlags(t, kind, alone(input("type="+kind+" maxlength=1 minlength=5").typed("444")), 1, 8+16)
	}
	checkFlags(t, "url", alone(input("type=url maxlength=1 minlength=5").typed("a:b")), 1, 8+16)
	checkFlags(t, "email", alone(input("type=email multiple maxlength=6 minlength=8").typed("a@b,c@d")), 1, 8+16)
}

func TestP18_1_Bounds(t *testing.T) {
	for _, c := range []struct {
		attrs, value string
		want         int
	}{
		{"type=number min=5", "4", 32}, {"type=number min=5", "5", 0}, {"type=number max=3", "4", 64}, {"type=number max=4", "4", 0}, {"type=number step=3", "4", 128}, {"type=number step=3", "6", 0}, {"type=number step=any", "4.5", 0}, {"type=number", "4.5", 128}, {"type=number", "4", 0}, {"type=number min=5", "", 0}, {"type=number min=5 max=3", "x", 0}, {"type=number value=1 step=3", "4", 0}, {"type=number value=1 step=3", "3", 128},
		{"type=date min=2020-01-01 step=2", "2020-01-02", 128}, {"type=date min=2020-01-01 step=2", "2019-12-30", 32}, {"type=date max=2020-01-01", "2020-01-02", 64},
		{"type=month min=2020-02", "2020-01", 32}, {"type=month max=2020-02", "2020-03", 64}, {"type=month step=2", "1970-02", 128},
		{"type=week min=2020-W02", "2020-W01", 32}, {"type=week max=2020-W02", "2020-W03", 64}, {"type=week step=2", "1970-W02", 128},
		{"type=time min=10:00", "09:00", 32}, {"type=time max=10:00", "11:00", 64}, {"type=time", "10:00:01", 128}, {"type=time min=22:00 max=02:00", "12:00", 32 + 64}, {"type=time min=22:00 max=02:00", "23:00", 0}, {"type=time min=22:00 max=02:00", "01:00", 0},
		{"type=datetime-local min=2020-01-01T00:00", "2019-12-31T23:59", 32}, {"type=datetime-local max=2020-01-01T00:00", "2020-01-01T00:01", 64}, {"type=datetime-local", "2020-01-01T00:00:01", 128},
		{"type=range", "50", 0}, {"type=range", "101", 64}, {"type=range", "-1", 32}, {"type=range step=3", "50", 128}, {"type=range min=5 max=3", "4", 32 + 64},
		{"type=text min=5 max=3 step=3", "4", 0}, {"type=search min=5 max=3", "4", 0}, {"type=color min=5 max=3", "4", 0}, {"type=hidden value=4 min=5 max=3", "4", 0}, {"type=checkbox value=4 min=5 max=3", "4", 0}, {"type=submit value=4 min=5 max=3", "4", 0},
		{"type=NUMBER min=5", "4", 32}, {"type=number min=5 readonly disabled", "4", 32},
	} {
		checkFlags(t, c.attrs+" "+c.value, alone(input(c.attrs).holding(c.value)), 1, c.want)
		checkFlags(t, "typed, "+c.attrs+" "+c.value, alone(input(c.attrs).typed(c.value)), 1, c.want)
	}
	checkFlags(t, "textarea", alone(el("textarea", "min=5 max=3").holding("4")), 1, 0)
}

// The chapter's words once more: each thing is asked of the layers below, one by one.

func slowRight(d api.Doc) bool { return tree.Right(d.Nodes) && len(d.Ctls) == len(d.Nodes) }

func slowKind(l []api.Node, id int) int {
	if !tree.Right(l) || id < 0 || id >= len(l) {
		return api.KNone
	}
	return kinds.Of(l[id])
}

func slowHas(l []api.Node, id int, name string) bool {
	_, ok := tree.Attr(l, id, name)
	return ok
}

func slowLocked(l []api.Node, id int) bool {
	return owner.Disabled(l, id) || slowHas(l, id, "readonly") && kinds.Applies(slowKind(l, id), "readonly")
}

func slowBarred(l []api.Node, id int) bool {
	kind := slowKind(l, id)
	if !kinds.Submits(kind) {
		return true
	}
	barred := kind == api.KHidden || kind == api.KReset || kind == api.KButton || kind == api.KResets || kind == api.KPlain
	return barred || slowLocked(l, id) || tree.Up(l, id, "datalist") != -1
}

func slowValue(d api.Doc, id int) string {
	if !slowRight(d) || id < 0 || id >= len(d.Nodes) {
		return ""
	}
	if kind := slowKind(d.Nodes, id); kind != api.KSelect {
		return control.Value(kind, d.Ctls[id], d.Nodes[id].Attrs)
	}
	return option.Value(d, id)
}

func slowMissing(d api.Doc, id int) bool {
	l, kind := d.Nodes, slowKind(d.Nodes, id)
	if kind == api.KRadio {
		required, checked := 0, 0
		for _, other := range group.Members(l, id) {
			if slowHas(l, other, "required") {
				required++
			}
			if d.Ctls[other].Checked {
				checked++
			}
		}
		return required > 0 && checked == 0
	}
	if !slowHas(l, id, "required") || !kinds.Applies(kind, "required") {
		return false
	}
	if kind == api.KSelect {
		all := option.List(l, id)
		on := slices.DeleteFunc(slices.Clone(all), func(opt int) bool { return !d.Ctls[opt].Selected })
		if len(on) != 1 || on[0] != all[0] {
			return len(on) == 0
		}
		return !slowHas(l, id, "multiple") && option.Size(l, id) == 1 && slices.Contains(l[id].Kids, all[0]) && option.Text(l, all[0]) == ""
	}
	return kind == api.KCheckbox && !d.Ctls[id].Checked || kind == api.KFile && len(d.Ctls[id].Files) == 0 || kinds.Mode(kind) == api.ModeValue && slowValue(d, id) == "" && !slowLocked(l, id)
}

func slowOffType(d api.Doc, id int) bool {
	s := slowValue(d, id)
	switch slowKind(d.Nodes, id) {
	case api.KURL:
		return s != "" && !link.Absolute(s)
	case api.KEmail:
		if slowHas(d.Nodes, id, "multiple") {
			return s != "" && !mail.List(s)
		}
		return s != "" && !mail.Address(s)
	}
	return false
}

func slowOffPattern(d api.Doc, id int) bool {
	p, ok := tree.Attr(d.Nodes, id, "pattern")
	s, kind := slowValue(d, id), slowKind(d.Nodes, id)
	if !ok || !kinds.Applies(kind, "pattern") || !pattern.Right(p) || s == "" {
		return false
	}
	for kind == api.KEmail && slowHas(d.Nodes, id, "multiple") {
		first, behind, more := strings.Cut(s, ",")
		if fits, _ := pattern.Fits(p, first); !fits || !more {
			return !fits
		}
		s = behind
	}
	fits, _ := pattern.Fits(p, s)
	return !fits
}

var lengthShape = regexp.MustCompile(`\A[0-9]{1,6}\z`)

// slowLength is -1, if the attribute tells nothing about what was typed.
func slowLength(d api.Doc, id int, name string) int {
	s, _ := tree.Attr(d.Nodes, id, name)
	if !kinds.Applies(slowKind(d.Nodes, id), name) || !lengthShape.MatchString(s) || !d.Ctls[id].Dirty || !d.Ctls[id].Typed {
		return -1
	}
	n, _ := strconv.Atoi(s)
	return n
}

func slowFlags(d api.Doc, id int) int {
	if !slowRight(d) || !kinds.Submits(slowKind(d.Nodes, id)) {
		return 0
	}
	s := slowValue(d, id)
	units := text.Units(s)
	most := slowLength(d, id, "maxlength")
	under, over, off := step.Flags(slowKind(d.Nodes, id), d.Nodes[id].Attrs, s)
	n := 0
	for i, holds := range []bool{slowMissing(d, id), slowOffType(d, id), slowOffPattern(d, id), most >= 0 && units > most, units > 0 && units < slowLength(d, id, "minlength"), under, over, off, d.Ctls[id].Custom != ""} {
		if holds {
			n += int(math.Pow(2, float64(i)))
		}
	}
	return n
}

func slowWrong(d api.Doc, form int) []int {
	if !slowRight(d) || slowKind(d.Nodes, form) != api.KForm {
		return nil
	}
	var out []int
	for _, id := range tree.Order(d.Nodes, tree.Top(d.Nodes, form)) {
		if owner.Form(d.Nodes, id) == form && slowFlags(d, id) != 0 && !slowBarred(d.Nodes, id) {
			out = append(out, id)
		}
	}
	return out
}

// draw is one of list.
func draw(r *rand.Rand, list ...string) string { return list[r.Intn(len(list))] }

// textsOf are values that a control of such a type may have, or be bound by.
func textsOf(typ string) []string {
	switch typ {
	case "date":
		return []string{"2020-01-01", "2020-01-02", "2020-01-04", ""}
	case "month":
		return []string{"2020-01", "2020-02", "2020-04", ""}
	case "week":
		return []string{"2020-W01", "2020-W02", "2020-W04", ""}
	case "time":
		return []string{"09:00", "10:00", "10:00:01", "22:00", ""}
	case "datetime-local":
		return []string{"2020-01-01T00:00", "2020-01-01T00:01", "2020-01-01T00:00:01", ""}
	case "number", "range":
		return []string{"-1", "3", "4", "50", "101", ""}
	case "email":
		return []string{"a", "a@b", "a@b,c@d", "a@b,", ""}
	case "url":
		return []string{"a", "x:y", "http:a", "http://a/", ""}
	}
	return []string{"", "", "a", "aa", "aaaa", "\U0001f600", "\xff"}
}

// drawAttrs draws of the attributes that tell anything, so that each flag comes by now and then.
func drawAttrs(r *rand.Rand) []api.Attr {
	var out []api.Attr
	add := func(odds int, name string, values ...string) {
		if r.Intn(odds) == 0 {
			out = append(out, api.Attr{Name: name, Value: draw(r, values...)})
		}
	}
	add(1, "type", slices.Concat(inputTypes, []string{"email", "email", "url", "radio", "radio", "file", "number", "text", "nothing"})...)
	texts := textsOf(out[0].Value)
	add(3, "required", "")
	add(8, "readonly", "")
	add(10, "disabled", "")
	add(3, "multiple", "")
	add(2, "pattern", "a*", "...", "b", "(", ".*@.*", "")
	add(2, "maxlength", "0", "1", "2", "3", "x", "0000001")
	add(2, "minlength", "0", "2", "5", "000004", "0000004", "-1")
	add(2, "min", texts...)
	add(2, "max", texts...)
	add(2, "step", "3", "any", "2", "")
	add(4, "value", texts...)
	add(3, "id", "f", "g", "")
	add(5, "form", "f", "g", "x")
	add(1, "name", "a", "a", "a", "b", "")
	add(6, "size", "1", "2", "0")
	r.Shuffle(len(out), func(i, j int) { out[i], out[j] = out[j], out[i] })
	return out
}

func drawState(r *rand.Rand, texts []string) api.Ctl {
	c := api.Ctl{Value: draw(r, texts...)}
	for _, f := range []*bool{&c.Dirty, &c.Typed, &c.Selected, &c.DirtySelected, &c.DirtyChecked, &c.Mixed} {
		*f = r.Intn(3) > 0
	}
	c.Checked, c.Custom = r.Intn(4) == 0, draw(r, "", "", "", "", "c")
	c.Files = []api.Entry{{FileName: "f"}, {}}[:r.Intn(3)]
	return c
}

// drawDoc puts nodes into one another in any way, by layer 10, so that their numbers don't stand in order, and some stand apart.
func drawDoc(r *rand.Rand) api.Doc {
	names := []string{"input", "input", "input", "input", "input", "input", "input", "input", "input", "select", "select", "option", "option", "option", "optgroup", "textarea", "button", "form", "form", "fieldset", "legend", "output", "datalist", "div", ""}
	l := []api.Node{{Name: names[r.Intn(len(names)-1)], Parent: -1, Attrs: drawAttrs(r)}}
	for n := r.Intn(24); n > 0; n-- {
		name := draw(r, names...)
		l, _, _ = tree.Add(l, name, "")
		if name != "" {
			l[len(l)-1].Attrs = drawAttrs(r)
		}
	}
	for n := (1 + r.Intn(4)) * len(l); n > 0; n-- {
		if next, e := tree.Insert(l, r.Intn(len(l)), r.Intn(len(l)), -1); e == api.OK {
			l = next
		}
	}
	d := api.Doc{Nodes: l}
	for id := range l {
		typ, _ := tree.Attr(l, id, "type")
		d.Ctls = append(d.Ctls, drawState(r, textsOf(typ)))
	}
	return d
}

// eachDrawn calls f with documents that are drawn, always the same ones.
func eachDrawn(n int, f func(d api.Doc)) {
	r := rand.New(rand.NewSource(18))
	for range n {
		f(drawDoc(r))
	}
}

func TestP18_1_Drawn(t *testing.T) {
	held := map[int]int{}
	turn, barred := 0, 0
	eachDrawn(4000, func(d api.Doc) {
		turn++
		for id := range len(d.Nodes) + 2 {
			if id == len(d.Nodes)+1 {
				id = noNodes[turn%len(noNodes)]
			}
			got, want := Flags(d, id), slowFlags(d, id)
			if got != want {
				t.Fatalf("Flags of %d of %+v is %d, not %d", id, d, got, want)
			}
			if got, want := Barred(d.Nodes, id), slowBarred(d.Nodes, id); got != want {
				t.Fatalf("Barred of %d of %+v is %v, not %v", id, d.Nodes, got, want)
			}
			if got, want := Value(d, id), slowValue(d, id); got != want {
				t.Fatalf("Value of %d of %+v is %q, not %q", id, d, got, want)
			}
			if Valid(d, id) != (slowBarred(d.Nodes, id) || want == 0) {
				t.Fatalf("Valid of %d of %+v isn't so", id, d)
			}
			if slowBarred(d.Nodes, id) && want != 0 {
				barred++
			}
			for flag := 1; flag <= 256; flag *= 2 {
				held[flag&want]++
			}
		}
	})
	for flag := 1; flag <= 256; flag *= 2 {
		if held[flag] < 300 {
			t.Errorf("only %d of flag %d were drawn", held[flag], flag)
		}
	}
	if barred < 2000 {
		t.Errorf("only %d that are barred, and have flags, were drawn", barred)
	}
}

func TestP18_2_Drawn(t *testing.T) {
	several, turned := 0, 0
	eachDrawn(4000, func(d api.Doc) {
		for id := -1; id <= len(d.Nodes); id++ {
			got, want := Wrong(d, id), slowWrong(d, id)
			if !slices.Equal(got, want) {
				t.Fatalf("Wrong of %d of %+v is %v, not %v", id, d, got, want)
			}
			if len(want) > 1 {
				several++
			}
			if len(want) > 1 && !slices.IsSorted(want) {
				turned++
			}
		}
	})
	if several < 200 || turned < 100 {
		t.Errorf("only %d forms with several that are wrong were drawn, %d of which don't stand by their numbers", several, turned)
	}
}

// family is a form f (1) with a field that is missing (2), one that isn't (3), an image (4), a barred one (5), a fieldset (6) with an output (7), a button (8) and a select (9) within it, and another form (11) with a field (12); beside it an image and a field that tell f (13, 14), one that tells nothing (15), and one of no form (16); apart from all a field (17), and a form (18) with one (19).
func family() api.Doc {
	return doc(
		el("html", "",
			el("form", "id=f",
				input("required"), input("required").holding("x"), input("type=image").told(), input("type=hidden").told(),
				el("fieldset", "required", el("output", "").told(), el("button", "").told(), el("select", "required", el("option", ""))).told(),
				el("form", "", input("required"))),
			input("type=image form=f").told(), input("required form=f"), input("required form=x"), input("required")),
		input("required form=f"),
		el("form", "id=f", input("required")))
}

func TestP18_2(t *testing.T) {
	d := family()
	for form, want := range map[int][]int{1: {2, 4, 8, 9, 13, 14}, 11: {12}, 18: {19}, 0: nil, 2: nil, 6: nil, 10: nil, 16: nil, 17: nil, 19: nil} {
		if got := Wrong(d, form); !slices.Equal(got, want) {
			t.Errorf("Wrong of %d is %v, not %v", form, got, want)
		}
	}
	for id, want := range []bool{true, true, false, true, false, true, true, true, false, false, true, true, false, false, false, false, false, false, true, false} {
		if got := Valid(d, id); got != want {
			t.Errorf("Valid of %d is %v", id, got)
		}
	}
	for _, id := range append(noNodes, len(d.Nodes)) {
		if Wrong(d, id) != nil || !Valid(d, id) || Flags(d, id) != 0 || !Barred(d.Nodes, id) || Value(d, id) != "" {
			t.Errorf("of node %d, which isn't there, something is told", id)
		}
	}
	turned := doc(el("form", "", input("required"), input("required"), input("type=image").told()))
	turned.Nodes[0].Kids = []int{3, 2, 1}
	if got := Wrong(turned, 0); !slices.Equal(got, []int{3, 2, 1}) {
		t.Errorf("Wrong isn't in order: %v", got)
	}
	if got := Wrong(doc(el("form", "", input(""), input("required").holding("a"))), 0); got != nil {
		t.Errorf("of a form with nothing wrong Wrong is %v", got)
	}
	if got := Wrong(doc(el("form", "")), 0); got != nil {
		t.Errorf("of a form with nothing in it Wrong is %v", got)
	}
}

// TestP18_2_Every has one control of each kind in a form, each with a flag that holds: all but the barred ones are wrong.
func TestP18_2_Every(t *testing.T) {
	var parts []part
	for _, p := range everyControl("") {
		parts = append(parts, p.told())
	}
	for _, name := range otherNames {
		parts = append(parts, el(name, "required").told())
	}
	var want []int
	for kind := api.KHidden; kind <= api.KPlain; kind++ {
		if kind != api.KHidden && kind != api.KReset && kind != api.KButton && kind != api.KResets && kind != api.KPlain {
			want = append(want, kind)
		}
	}
	d := doc(el("form", "", parts...))
	if got := Wrong(d, 0); !slices.Equal(got, want) {
		t.Errorf("Wrong is %v, not %v", got, want)
	}
	for id := range d.Nodes {
		if Valid(d, id) == slices.Contains(want, id) {
			t.Errorf("Valid of %d, %+v, isn't so", id, d.Nodes[id])
		}
	}
}

// wrongDocs are documents that aren't right, but otherwise as family is.
func wrongDocs() []api.Doc {
	var out []api.Doc
	add := func(change func(d *api.Doc)) {
		d := family()
		change(&d)
		out = append(out, d)
	}
	at := func(id int, change func(n *api.Node)) {
		add(func(d *api.Doc) { change(&d.Nodes[id]) })
	}
	add(func(d *api.Doc) { *d = api.Doc{} })
	add(func(d *api.Doc) { d.Nodes, d.Ctls = d.Nodes[:19], d.Ctls[:19] })
	add(func(d *api.Doc) { d.Nodes, d.Ctls = d.Nodes[1:], d.Ctls[1:] })
	at(0, func(n *api.Node) { n.Name = "" })
	at(0, func(n *api.Node) { n.Text = "x" })
	at(0, func(n *api.Node) { n.Parent = 1 })
	at(0, func(n *api.Node) { n.Parent = 0 })
	at(0, func(n *api.Node) { n.Kids = n.Kids[:2] })
	at(1, func(n *api.Node) { n.Kids[0] = 99 })
	at(1, func(n *api.Node) { n.Kids[0] = -1 })
	at(1, func(n *api.Node) { n.Kids[0] = n.Kids[1] })
	at(2, func(n *api.Node) { n.Parent = 77 })
	at(2, func(n *api.Node) { n.Parent = -7 })
	at(2, func(n *api.Node) { n.Parent = 2 })
	at(2, func(n *api.Node) { n.Name = "INPUT" })
	at(8, func(n *api.Node) { n.Attrs = append(n.Attrs, api.Attr{Name: "Name"}) })
	at(14, func(n *api.Node) { n.Attrs = append(n.Attrs, api.Attr{Name: "form", Value: "x"}) })
	at(9, func(n *api.Node) { n.Attrs[0].Value = strings.Repeat("x", api.MaxText+1) })
	at(19, func(n *api.Node) { n.Text = "x" })
	add(func(d *api.Doc) { // two that stand within each other
		d.Nodes[6].Parent, d.Nodes[9].Kids = 9, []int{10, 6}
		d.Nodes[1].Kids = []int{2, 3, 4, 5, 11}
	})
	add(func(d *api.Doc) {
		for len(d.Nodes) <= api.MaxNodes {
			d.Nodes, d.Ctls = append(d.Nodes, api.Node{Name: "input", Parent: -1}), append(d.Ctls, api.Ctl{})
		}
	})
	return out
}

// shortDocs are documents whose nodes alone are right.
func shortDocs() []api.Doc {
	d := family()
	return []api.Doc{{Nodes: d.Nodes}, {Nodes: d.Nodes, Ctls: d.Ctls[:len(d.Ctls)-1]}, {Nodes: d.Nodes, Ctls: append(slices.Clone(d.Ctls), api.Ctl{})}, {Nodes: d.Nodes, Ctls: make([]api.Ctl, 0, len(d.Ctls))}}
}

func TestP18_Wrong(t *testing.T) {
	for i, d := range slices.Concat(wrongDocs(), shortDocs()) {
		for _, id := range append(noNodes, 0, 1, 2, 3, 4, 7, 8, 9, 11, 12, 14, 17, 18, 19, 20) {
			if Flags(d, id) != 0 || !Valid(d, id) || Wrong(d, id) != nil || Value(d, id) != "" {
				t.Errorf("wrong document %d: of %d something is told", i, id)
			}
		}
	}
	for i, d := range wrongDocs() {
		for _, id := range append(noNodes, 0, 1, 2, 3, 4, 8, 9, 12, 14, 17, 19, 20) {
			if !Barred(d.Nodes, id) {
				t.Errorf("wrong document %d: %d isn't barred", i, id)
			}
		}
	}
	if Barred(shortDocs()[0].Nodes, 2) {
		t.Error("Barred asks for states")
	}
}

func TestExamples(t *testing.T) {
	d := doc(el("html", "", input("required"), input("required disabled")))
	if Flags(d, 1) != 1 || Valid(d, 1) || Barred(d.Nodes, 1) {
		t.Errorf("the flags are %d", Flags(d, 1))
	}
	if !Barred(d.Nodes, 2) || !Valid(d, 2) {
		t.Error("the disabled one isn't barred, or isn't valid")
	}
}

// TestR1_Odd asks of states that no control of the kind has; a pattern can't be asked of a text that is too long, and so doesn't fit it.
func TestR1_Odd(t *testing.T) {
	long := strings.Repeat("a", api.MaxText+1)
	for i, p := range everyControl("required multiple pattern=a* minlength=5 maxlength=5 min=1 max=2 step=3") {
		for _, s := range []string{"", long, strings.Repeat(",", 9000), "\x00", "\xff", strings.Repeat("9", 400), "http://[", "@"} {
			d := alone(p.typed(s).told())
			if got, want := Flags(d, 1), slowFlags(d, 1); got != want || Value(d, 1) != slowValue(d, 1) {
				t.Errorf("kind %d: Flags is %d, not %d", i+1, got, want)
			}
		}
	}
	checkFlags(t, "a text that is too long", alone(input("pattern=a*").holding(long)), 1, 4)
	checkFlags(t, "texts that aren't too long", alone(input("type=email multiple pattern=a*").holding(long+","+long)), 1, 2+4)
	checkFlags(t, "texts that aren't too long", alone(input("type=email multiple pattern=a*").holding(long[1:]+","+long[1:])), 1, 2)
}

// TestR1_Most asks of as many nodes as there may be, in one form, or each within the one ahead.
func TestR1_Most(t *testing.T) {
	var parts []part
	for range api.MaxNodes - 1 {
		parts = append(parts, input("type=radio name=a required"))
	}
	if got := Wrong(doc(el("form", "", parts...)), 0); len(got) != api.MaxNodes-1 {
		t.Errorf("of many %d are wrong", len(got))
	}
	parts[200] = parts[200].checked()
	if got := Wrong(doc(el("form", "", parts...)), 0); got != nil {
		t.Errorf("of many, one of which is checked, %d are wrong", len(got))
	}
	deep := input("required")
	for range api.MaxNodes - 2 {
		deep = input("required", deep)
	}
	if got := Wrong(doc(el("form", "", deep)), 0); len(got) != api.MaxNodes-1 || !slices.IsSorted(got) {
		t.Errorf("of many within one another %d are wrong", len(got))
	}
	if d := doc(el("datalist", "", deep)); !Valid(d, api.MaxNodes-1) || Flags(d, api.MaxNodes-1) != 1 {
		t.Error("the deepest one isn't barred, or isn't missing")
	}
}

// roomy is a copy of list, with spare room behind it that is filled by more.
func roomy[T any](list []T, more ...T) []T {
	return append(slices.Clone(list), more...)[:len(list)]
}

// roomyDoc is family with spare room behind each of its lists, and one control of each kind besides.
func roomyDoc() api.Doc {
	d := family()
	for _, p := range append(everyControl("value=attribute required pattern=a"), el("select", "", el("option", "value=attribute").selected()), el("select", "", el("option", "", txt("text")).selected())) {
		d = put(d, p.in(api.Ctl{Value: "value", Custom: "custom", Files: []api.Entry{{FileName: "file"}}}), -1)
	}
	for i := range d.Nodes {
		d.Nodes[i].Attrs = roomy(d.Nodes[i].Attrs, api.Attr{Name: "required", Value: "spare"})
		d.Nodes[i].Kids = roomy(d.Nodes[i].Kids, 77, 78)
		d.Ctls[i].Files = roomy(d.Ctls[i].Files, api.Entry{Name: "spare"})
	}
	return api.Doc{Nodes: roomy(d.Nodes, api.Node{Name: "spare"}), Ctls: roomy(d.Ctls, api.Ctl{Checked: true})}
}

// wholly is all of d, up to the ends of its spare rooms.
func wholly(d api.Doc) api.Doc {
	all := api.Doc{Nodes: slices.Clone(d.Nodes[:cap(d.Nodes)]), Ctls: slices.Clone(d.Ctls[:cap(d.Ctls)])}
	for i := range all.Nodes {
		n := &all.Nodes[i]
		n.Attrs, n.Kids = slices.Clone(n.Attrs[:cap(n.Attrs)]), slices.Clone(n.Kids[:cap(n.Kids)])
	}
	for i := range all.Ctls {
		all.Ctls[i].Files = slices.Clone(all.Ctls[i].Files[:cap(all.Ctls[i].Files)])
	}
	return all
}

func TestR4(t *testing.T) {
	d := roomyDoc()
	was := wholly(d)
	for id := -1; id <= len(d.Nodes); id++ {
		Barred(d.Nodes, id)
		Flags(d, id)
		Valid(d, id)
		Value(d, id)
		Wrong(d, id)
	}
	first, second := Wrong(d, 1), Wrong(d, 1)
	for i := range first[:cap(first)] {
		first[:cap(first)][i] = -5
	}
	if want := []int{2, 4, 8, 9, 13, 14}; !slices.Equal(second, want) || !slices.Equal(Wrong(d, 1), want) {
		t.Errorf("Wrong is %v, then %v", second, Wrong(d, 1))
	}
	if !reflect.DeepEqual(wholly(d), was) {
		t.Error("what was handed in is changed")
	}
}

// TestR4_Value holds that no two values lie at one place, nor where what was handed in does.
func TestR4_Value(t *testing.T) {
	d := roomyDoc()
	taken := map[*byte]string{}
	for i, n := range d.Nodes {
		for _, a := range n.Attrs {
			taken[unsafe.StringData(a.Value)] = a.Value
		}
		taken[unsafe.StringData(d.Ctls[i].Value)] = d.Ctls[i].Value
		taken[unsafe.StringData(n.Text)] = n.Text
	}
	values := 0
	for id := range d.Nodes {
		for range 2 {
			s := Value(d, id)
			if s == "" {
				continue
			}
			if _, shared := taken[unsafe.StringData(s)]; shared {
				t.Errorf("Value of %d, %q, shares memory", id, s)
			}
			taken[unsafe.StringData(s)] = s
			values++
		}
	}
	if values < 50 {
		t.Errorf("only %d values were asked", values)
	}
}
