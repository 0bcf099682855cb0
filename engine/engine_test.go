package engine

import (
	"fmt"
	"math"
	"reflect"
	"slices"
	"strconv"
	"strings"
	"testing"

	"counterfoil/api"
	"counterfoil/valid"
)

// noNodes are numbers that no world's nodes have, such among them as would be one if they were cut; -1 stands for no node at all, where a step takes it.
var noNodes = []int{-1, -2, -400, api.MaxNodes, api.MaxNodes + 1, 1 << 16, 1 << 31, -1 << 31, 1 << 32, 1<<32 + 1, -1<<32 + 1, math.MaxInt, math.MinInt, math.MinInt + 1}

// inputTypes are all that an input may have, in the order of their kinds.
var inputTypes = []string{"hidden", "text", "search", "tel", "url", "email", "password", "date", "month", "week", "time", "datetime-local", "number", "range", "color", "checkbox", "radio", "file", "submit", "image", "reset", "button"}

// firedTypes are the types of all events that a world fires.
var firedTypes = []string{"click", "input", "change", "submit", "invalid", "formdata", "reset"}

// part is a node with what is within it; a text, if its name is empty.
type part struct {
	name, text string
	attrs      []api.Attr
	kids       []part
}

// el is an element with attributes told as "name=value", or "name" alone, with blanks between.
func el(name, attrs string, kids ...part) part {
	p := part{name: name, kids: kids}
	for _, a := range strings.Fields(attrs) {
		n, v, _ := strings.Cut(a, "=")
		p.attrs = append(p.attrs, api.Attr{Name: n, Value: v})
	}
	return p
}

func in(attrs string, kids ...part) part { return el("input", attrs, kids...) }

func button(attrs string, kids ...part) part { return el("button", attrs, kids...) }

func form(attrs string, kids ...part) part { return el("form", attrs, kids...) }

func txt(s string) part { return part{text: s} }

// lay puts a part behind all others within a node of w; nodes are numbered in order.
func lay(t *testing.T, w *World, parent int, p part) {
	t.Helper()
	id, e := w.Add(p.name, p.text)
	if e != api.OK {
		t.Fatalf("Add of %q answers %d", p.name, e)
	}
	for _, a := range p.attrs {
		if e := w.Set(id, a.Name, a.Value); e != api.OK {
			t.Fatalf("Set of %q answers %d", a.Name, e)
		}
	}
	if parent != none {
		if e := w.Insert(parent, id, -1); e != api.OK {
			t.Fatalf("Insert of %q answers %d", p.name, e)
		}
	}
	for _, kid := range p.kids {
		lay(t, w, id, kid)
	}
}

// page is a world of parts within node 0, the first of which is node 1.
func page(t *testing.T, parts ...part) *World {
	t.Helper()
	w := New([]string{"b1", "b2"})
	for _, p := range parts {
		lay(t, w, 0, p)
	}
	return w
}

// run does a step that is told as a line: its name, numbers, and a text at the end. Its answer is a text.
func run(t *testing.T, w *World, line string) string {
	t.Helper()
	words := strings.SplitN(line, " ", 4)
	n := [4]int{}
	for i, word := range words {
		n[i], _ = strconv.Atoi(word)
	}
	rest := func(behind int) string {
		cut := strings.SplitN(line, " ", behind+1)
		if len(cut) <= behind {
			return ""
		}
		return cut[behind]
	}
	e := api.OK
	switch words[0] {
	case "add", "text":
		name, text := rest(1), ""
		if words[0] == "text" {
			name, text = "", name
		}
		id, e := w.Add(name, text)
		if e != api.OK {
			return "error " + strconv.Itoa(int(e))
		}
		return strconv.Itoa(id)
	case "insert":
		e = w.Insert(n[1], n[2], n[3])
	case "remove":
		e = w.Remove(n[1])
	case "set":
		e = w.Set(n[1], words[2], rest(3))
	case "unset":
		e = w.Unset(n[1], words[2])
	case "write":
		e = w.Write(n[1], rest(2))
	case "check", "uncheck":
		e = w.Check(n[1], words[0] == "check")
	case "custom":
		e = w.Custom(n[1], rest(2))
	case "on":
		e = w.Listen(listener(t, n[1], words[2], rest(3)))
	case "type":
		e = w.Type(n[1], rest(2))
	case "choose", "unchoose":
		e = w.Choose(n[1], words[0] == "choose")
	case "file":
		e = w.Pick(n[1], []api.Entry{{FileName: words[2], Value: rest(3)}})
	case "nofile":
		e = w.Pick(n[1], nil)
	case "click":
		e = w.Click(n[1])
	case "enter":
		e = w.Enter(n[1])
	case "submit":
		by := none
		if len(words) > 2 {
			by = n[2]
		}
		e = w.Submit(n[1], by)
	case "reset":
		e = w.Reset(n[1])
	case "ask":
		ok, e := w.Ask(n[1])
		if e != api.OK {
			return "error " + strconv.Itoa(int(e))
		}
		return strconv.FormatBool(ok)
	case "value":
		return valid.Value(w.Doc(), n[1])
	case "flags":
		return strconv.Itoa(valid.Flags(w.Doc(), n[1]))
	case "log":
		return strings.Join(w.Log(), ";")
	case "plans":
		return strconv.Itoa(len(w.Plans()))
	case "plan":
		p := w.Plans()[n[1]]
		return fmt.Sprintf("%s|%s|%s|%s|%s", p.Method, p.Action, p.Target, p.Body, p.Type)
	default:
		t.Fatalf("no step is told by %q", line)
	}
	if e != api.OK {
		return "error " + strconv.Itoa(int(e))
	}
	return "ok"
}

// listener reads "0 1,0,, 4,1,name,value" and the like: whether it is called on the way down, and acts.
func listener(t *testing.T, node int, kind, rest string) api.Listener {
	t.Helper()
	words := strings.Split(rest, " ")
	l := api.Listener{Node: node, Type: kind, Capture: words[0] == "1"}
	for _, word := range words[1:] {
		pieces := strings.SplitN(word, ",", 4)
		if len(pieces) != 4 {
			t.Fatalf("no act is told by %q", word)
		}
		what, e1 := strconv.Atoi(pieces[0])
		about, e2 := strconv.Atoi(pieces[1])
		if e1 != nil || e2 != nil {
			t.Fatalf("no act is told by %q", word)
		}
		l.Acts = append(l.Acts, api.Act{Kind: what, Node: about, Name: pieces[2], Value: pieces[3]})
	}
	return l
}

// all does steps with / between, and answers what they answered, joined likewise.
func all(t *testing.T, w *World, lines string) string {
	t.Helper()
	var out []string
	for _, line := range strings.Split(lines, " / ") {
		out = append(out, run(t, w, line))
	}
	return strings.Join(out, " / ")
}

// seen is all that can be seen of a world.
type seen struct {
	doc   api.Doc
	log   []string
	plans []api.Plan
}

func look(w *World) seen { return seen{w.Doc(), w.Log(), w.Plans()} }

// tells holds what steps, which are all done, put into the log.
func tells(t *testing.T, why string, w *World, lines, want string) {
	t.Helper()
	ahead := len(w.Log())
	for _, line := range strings.Split(lines, " / ") {
		if got := run(t, w, line); strings.HasPrefix(got, "error") {
			t.Errorf("%s: %q answers %s", why, line, got)
		}
	}
	if got := strings.Join(w.Log()[ahead:], ";"); got != want {
		t.Errorf("%s: %q tells\n%s, not\n%s", why, lines, got, want)
	}
}

// refuses holds that a step answers an error, and changes nothing.
func refuses(t *testing.T, why string, w *World, want api.Errno, step func() api.Errno) {
	t.Helper()
	ahead := look(w)
	if got := step(); got != want {
		t.Errorf("%s answers %d, not %d", why, got, want)
	}
	if now := look(w); !reflect.DeepEqual(now, ahead) {
		t.Errorf("%s changes %+v into %+v", why, ahead, now)
	}
}

// refusesLine is refuses, of a line.
func refusesLine(t *testing.T, w *World, line string, want api.Errno) {
	t.Helper()
	refuses(t, fmt.Sprintf("%.60q", line), w, want, func() api.Errno {
		got, ok := strings.CutPrefix(run(t, w, line), "error ")
		n, err := strconv.Atoi(got)
		if !ok || err != nil {
			return api.OK
		}
		return api.Errno(n)
	})
}

// state is a node's, told by what of it isn't zero.
func state(w *World, id int) string {
	c := w.Doc().Ctls[id]
	var out []string
	put := func(name string, holds bool) {
		if holds {
			out = append(out, name)
		}
	}
	put("="+c.Value, c.Value != "")
	put("dirty", c.Dirty)
	put("typed", c.Typed)
	put("checked", c.Checked)
	put("dirtychecked", c.DirtyChecked)
	put("mixed", c.Mixed)
	put("selected", c.Selected)
	put("dirtyselected", c.DirtySelected)
	put("custom:"+c.Custom, c.Custom != "")
	for _, f := range c.Files {
		put(fmt.Sprintf("file:%s,%s,%v,%s,%s", f.Name, f.Value, f.File, f.FileName, f.Type), true)
	}
	return strings.Join(out, " ")
}

func is(t *testing.T, why string, w *World, id int, want string) {
	t.Helper()
	if got := state(w, id); got != want {
		t.Errorf("%s: the state of %d is %q, not %q", why, id, got, want)
	}
}

func TestP25_1New(t *testing.T) {
	for _, draws := range [][]string{nil, {}, {""}, {"b", "b"}, slices.Repeat([]string{"x"}, 5000)} {
		want := seen{doc: api.Doc{Nodes: []api.Node{{Name: "html", Parent: -1}}, Ctls: []api.Ctl{{}}}}
		if got := look(New(draws)); !reflect.DeepEqual(got, want) {
			t.Errorf("a new world is %+v", got)
		}
	}
	if New(nil) == New(nil) {
		t.Error("two worlds are one")
	}
}

// TestP25_1Start: a new element's state is what it begins with.
func TestP25_1Start(t *testing.T) {
	w := New(nil)
	for i, name := range []string{"form", "input", "select", "textarea", "button", "output", "option", "x", ""} {
		if id, e := w.Add(name, ""); id != i+1 || e != api.OK {
			t.Errorf("Add of %q answers %d, %d", name, id, e)
		}
		is(t, name, w, i+1, "")
	}
	if id, e := w.Add("", "a\r\nb"); id != 10 || e != api.OK || w.Doc().Nodes[10].Text != "a\r\nb" || w.Doc().Nodes[10].Parent != -1 {
		t.Errorf("Add of a text answers %d, %d: %+v", id, e, w.Doc().Nodes)
	}
}

func TestP25_1Tree(t *testing.T) {
	w := page(t, form("", in(""), txt("t")), el("div", ""))
	long := strings.Repeat("x", api.MaxText+1)
	for line, want := range map[string]api.Errno{
		"add Form": api.ErrName, "add 1": api.ErrName, "add a_b": api.ErrName, "add " + strings.Repeat("a", 21): api.ErrName, "text " + long: api.ErrRange,
		"insert 0 9 -1": api.ErrNode, "insert 9 1 -1": api.ErrNode, "insert -1 1 -1": api.ErrNode, "insert 0 -1 -1": api.ErrNode,
		"insert 3 4 -1": api.ErrOrder, "insert 1 0 -1": api.ErrOrder, "insert 1 1 -1": api.ErrOrder, "insert 2 1 -1": api.ErrOrder,
		"insert 0 4 2": api.ErrNode, "insert 0 4 4": api.ErrNode, "insert 0 4 99": api.ErrNode, "insert 0 4 -2": api.ErrNode,
		"insert 3 4 99": api.ErrNode, "insert 1 0 99": api.ErrNode, "insert 2 1 -2": api.ErrNode, "insert 2 1 4": api.ErrOrder,
		"remove 9": api.ErrNode, "remove -1": api.ErrNode, "remove 0": api.ErrState,
		"set 9 a b": api.ErrNode, "set 9 A b": api.ErrNode, "set 3 a b": api.ErrKind, "set 3 A b": api.ErrKind, "set 1 A b": api.ErrName, "set 1 A " + long: api.ErrName, "set 1  b": api.ErrName, "set 1 a " + long: api.ErrRange,
		"unset 9 a": api.ErrNode, "unset 3 a": api.ErrKind,
	} {
		refusesLine(t, w, line, want)
	}
	refuses(t, "Add of an element with a text", w, api.ErrRange, func() api.Errno { _, e := w.Add("a", "b"); return e })
	if got := all(t, w, "insert 0 4 1 / remove 3 / insert 4 1 -1 / set 4 a b / set 4 c  / set 4 a d e / unset 4 c / unset 4 B / unset 4 nothing"); got != "ok / ok / ok / ok / ok / ok / ok / ok / ok" {
		t.Error(got)
	}
	want := []api.Node{
		{Name: "html", Parent: -1, Kids: []int{4}},
		{Name: "form", Parent: 4, Kids: []int{2}},
		{Name: "input", Parent: 1},
		{Text: "t", Parent: -1},
		{Name: "div", Parent: 0, Kids: []int{1}, Attrs: []api.Attr{{Name: "a", Value: "d e"}}},
	}
	if got := w.Doc().Nodes; !reflect.DeepEqual(got, want) {
		t.Errorf("the document is %+v, not %+v", got, want)
	}
	refusesLine(t, w, "remove 3", api.ErrState)
}

func TestP25_1Full(t *testing.T) {
	w := New(nil)
	for len(w.Doc().Nodes) < api.MaxNodes {
		if _, e := w.Add("input", ""); e != api.OK {
			t.Fatal(e)
		}
	}
	refusesLine(t, w, "add input", api.ErrFull)
	refusesLine(t, w, "text x", api.ErrFull)
	refusesLine(t, w, "add Input", api.ErrName)
	for i := range api.MaxAttrs {
		if e := w.Set(1, "a"+strconv.Itoa(i), ""); e != api.OK {
			t.Fatal(e)
		}
	}
	refusesLine(t, w, "set 1 type hidden", api.ErrFull)
	if got := all(t, w, "set 1 a0 b / unset 1 a1 / set 1 type hidden"); got != "ok / ok / ok" {
		t.Error(got)
	}
	refusesLine(t, w, "write 1 x", api.ErrFull)
}

// TestP25_1Settle: what is texts within, groups and selects is settled behind each change.
func TestP25_1Settle(t *testing.T) {
	w := page(t, form("", el("textarea", "", txt("a\r\nb"), txt("c")), el("output", "", txt("a\r\nb"), el("b", "", txt("no")))))
	is(t, "an area's texts", w, 2, "=a\nbc")
	is(t, "an output's texts", w, 5, "=a\r\nb")
	all(t, w, "remove 3")
	is(t, "a text taken away", w, 2, "=c")
	all(t, w, "insert 2 3 -1")
	is(t, "texts in another order", w, 2, "=ca\nb")
	all(t, w, "write 2 x\ry / remove 3 / write 5 z / insert 5 3 -1")
	is(t, "an area that was written into", w, 2, "=x\ny dirty")
	is(t, "an output that was written into", w, 5, "=z dirty")

	w = page(t, form("", in("type=radio name=r checked"), in("type=radio name=r checked"), in("type=radio name=r")), form("", in("type=radio name=r checked")))
	is(t, "the first of two", w, 2, "")
	is(t, "the last of two", w, 3, "checked")
	is(t, "one of another form", w, 6, "checked")
	all(t, w, "insert 1 6 2")
	is(t, "one that comes ahead into the group", w, 6, "")
	is(t, "the one behind it", w, 3, "checked")
	all(t, w, "remove 3 / check 6 / insert 1 3 -1")
	is(t, "one that comes back behind", w, 3, "checked")
	is(t, "the one ahead of it", w, 6, "dirtychecked")

	w = page(t, el("select", "", el("option", "disabled"), el("option", ""), el("option", "selected"), el("option", "selected")))
	for id, want := range map[int]string{2: "", 3: "", 4: "", 5: "selected"} {
		is(t, "of several options the last", w, id, want)
	}
	all(t, w, "remove 5")
	is(t, "an option that is away", w, 5, "selected")
	is(t, "of none the first that isn't off", w, 3, "selected")
	all(t, w, "set 1 size 2 / remove 3")
	is(t, "none of a select of two rows", w, 4, "")
	all(t, w, "unset 1 size")
	is(t, "one of a select of one row", w, 4, "selected")
	all(t, w, "set 1 multiple  / insert 1 5 -1")
	is(t, "the one", w, 4, "selected")
	is(t, "and the other of a multiple select", w, 5, "selected")
	all(t, w, "unset 1 multiple")
	is(t, "not both any more", w, 4, "")
}

// TestP25_1Set: attributes tell states till they are dirty, and types keep what they can.
func TestP25_1Set(t *testing.T) {
	type row struct{ why, lines, want string }
	for _, r := range []row{
		{"a value", "set 1 value a", "=a"},
		{"a value, cut at its ends", "set 1 type url / set 1 value  a ", "=a"},
		{"a value that goes", "set 1 value a / unset 1 value", ""},
		{"a value that was written", "write 1 b / set 1 value a", "=b dirty"},
		{"a value that was typed", "type 1 b / set 1 value a", "=b dirty typed"},
		{"bounds", "set 1 type number / write 1 2 / set 1 type range / set 1 max 1", "=1 dirty"},
		{"bounds that go", "set 1 type range / set 1 min 80 / unset 1 min", "=80"},
		{"another attribute", "set 1 type range / set 1 class a", "=50"},
		{"checked", "set 1 type checkbox / set 1 checked ", "checked"},
		{"checked, and not", "set 1 type checkbox / set 1 checked  / unset 1 checked", ""},
		{"checked behind a click", "set 1 type checkbox / click 1 / unset 1 checked", "checked dirtychecked"},
		{"a text that becomes hidden", "write 1 a / set 1 type hidden", "=a dirty"},
		{"a text that becomes a range", "write 1 7.4 / set 1 type range", "=7 dirty"},
		{"a text that becomes a date", "write 1 7.4 / set 1 type date", "dirty"},
		{"hidden that becomes a text", "set 1 type hidden / set 1 value a / set 1 type text", "=a"},
		{"a text that becomes a file", "write 1 a / set 1 type file", "dirty"},
		{"a file that becomes a text", "set 1 type file / set 1 value a / unset 1 type", "=a"},
		{"a range that becomes a text by no type", "set 1 type range / write 1 7 / unset 1 type", "=7 dirty"},
		{"capitals", "set 1 value a / set 1 type RANGE", "=50"},
	} {
		w := page(t, in(""))
		for _, line := range strings.Split(r.lines, " / ") {
			if got := run(t, w, line); got != "ok" {
				t.Errorf("%s: %q answers %s", r.why, line, got)
			}
		}
		is(t, r.why, w, 1, r.want)
	}
	w := page(t, in(""))
	all(t, w, "write 1 a / set 1 type checkbox")
	if got := w.Doc().Nodes[1].Attrs; !slices.Equal(got, []api.Attr{{Name: "type", Value: "checkbox"}, {Name: "value", Value: "a"}}) {
		t.Errorf("a text that becomes a checkbox leaves %v", got)
	}
	w = page(t, button("type=reset"), el("option", ""), el("select", ""), el("textarea", "", txt("t")))
	all(t, w, "set 1 type submit / set 2 selected  / set 4 value v / set 4 type hidden")
	is(t, "a button's type", w, 1, "")
	is(t, "an option", w, 2, "selected")
	is(t, "an area takes no attribute", w, 4, "=t")
}

// TestP25_1SetGroup: what an attribute changes is settled too.
func TestP25_1SetGroup(t *testing.T) {
	w := page(t, in("type=radio name=r checked"), in("type=radio name=s checked"), in("type=checkbox name=r checked"))
	all(t, w, "set 2 name r")
	is(t, "the first", w, 1, "")
	is(t, "the last", w, 2, "checked")
	all(t, w, "set 3 type radio")
	is(t, "not the last any more", w, 2, "")
	is(t, "a new last one", w, 3, "checked")
	all(t, w, "set 1 checked ")
	is(t, "one ahead of it", w, 1, "")
	all(t, w, "unset 3 name / set 1 checked ")
	is(t, "alone", w, 1, "checked")
}

// TestP25_1Kept: where the attribute value has no room a type keeps nothing.
func TestP25_1Kept(t *testing.T) {
	w := page(t, in("type=text"))
	for i := range api.MaxAttrs - 1 {
		w.Set(1, "a"+strconv.Itoa(i), "")
	}
	all(t, w, "write 1 x / set 1 type hidden")
	if got := len(w.Doc().Nodes[1].Attrs); got != api.MaxAttrs || run(t, w, "value 1") != "" {
		t.Errorf("of a full element there are %d attributes, and the value %q", got, run(t, w, "value 1"))
	}
	is(t, "a full element", w, 1, "=x dirty")
}

func TestP25_1Write(t *testing.T) {
	long := strings.Repeat("x", api.MaxText+1)
	w := page(t, form("", in(""), el("select", "", el("option", "value=a"), el("option", "value=b"), el("option", "value=b disabled")), in("type=file"), txt("t"), el("fieldset", ""), in("type=hidden"), in("type=checkbox")))
	for line, want := range map[string]api.Errno{
		"write 99 a": api.ErrNode, "write 99 " + long: api.ErrNode, "write -1 a": api.ErrNode,
		"write 8 a": api.ErrKind, "write 8 " + long: api.ErrKind,
		"write 3 " + long: api.ErrRange, "write 2 " + long: api.ErrRange, "write 7 " + long: api.ErrRange, "write 10 " + long: api.ErrRange, "write 11 " + long: api.ErrRange, "write 9 " + long: api.ErrRange,
		"write 7 a": api.ErrState, "write 9 a": api.ErrKind, "write 1 a": api.ErrKind, "write 0 a": api.ErrKind, "write 4 a": api.ErrKind,
	} {
		refusesLine(t, w, line, want)
	}
	if got := all(t, w, "write 2 x / file 7 n hi / write 7  / write 10 h / write 11 c / write 3 b"); got != "ok / ok / ok / ok / ok / ok" {
		t.Error(got)
	}
	is(t, "a text", w, 2, "=x dirty")
	is(t, "a file", w, 7, "")
	is(t, "hidden", w, 10, "")
	is(t, "a checkbox", w, 11, "")
	is(t, "an option that isn't written", w, 4, "")
	is(t, "an option that is", w, 5, "selected dirtyselected")
	is(t, "an option of the same value", w, 6, "")
	for line, want := range map[string]string{"value 10": "h", "value 11": "c", "value 3": "b", "log": "event input 7;event change 7"} {
		if got := run(t, w, line); got != want {
			t.Errorf("%s is %q, not %q", line, got, want)
		}
	}
	all(t, w, "write 3 none")
	is(t, "where none is written the first", w, 4, "selected")
	is(t, "not the one that was", w, 5, "dirtyselected")
	if e := w.Write(3, long[:api.MaxText]); e != api.OK {
		t.Errorf("Write of as much as there may be answers %d", e)
	}
	all(t, w, "set 11 type radio / set 11 checked  / set 10 type radio / set 10 checked  / write 11 v")
	is(t, "no group", w, 10, "checked")
}

func TestP25_1Check(t *testing.T) {
	w := page(t, in("type=radio name=r"), in("type=radio name=r"), in("type=checkbox"), in(""), txt("t"))
	for line, want := range map[string]api.Errno{"check 9": api.ErrNode, "uncheck -1": api.ErrNode, "check 4": api.ErrKind, "uncheck 4": api.ErrKind, "check 5": api.ErrKind, "check 0": api.ErrKind} {
		refusesLine(t, w, line, want)
	}
	if got := all(t, w, "check 1 / check 2 / check 3"); got != "ok / ok / ok" {
		t.Error(got)
	}
	is(t, "one that was", w, 1, "dirtychecked")
	is(t, "one that is", w, 2, "checked dirtychecked")
	is(t, "a checkbox", w, 3, "checked dirtychecked")
	all(t, w, "uncheck 2 / uncheck 3 / set 3 checked ")
	is(t, "one that isn't any more", w, 2, "dirtychecked")
	is(t, "a checkbox that isn't", w, 3, "dirtychecked")
	if w.Log() != nil {
		t.Errorf("a program's steps tell %v", w.Log())
	}
}

func TestP25_1Custom(t *testing.T) {
	long := strings.Repeat("x", api.MaxText+1)
	w := page(t, form("", el("output", ""), txt("t"), el("fieldset", ""), el("option", "")))
	for id := range 6 {
		refusesLine(t, w, "custom "+strconv.Itoa(id)+" a", api.ErrKind)
		refusesLine(t, w, "custom "+strconv.Itoa(id)+" "+long, api.ErrKind)
	}
	for _, name := range append(inputTypes, "select", "textarea", "button") {
		w := page(t, el(name, ""))
		if slices.Contains(inputTypes, name) && name != "button" {
			w = page(t, in("type="+name))
		}
		ahead := state(w, 1)
		refusesLine(t, w, "custom 9 a", api.ErrNode)
		refusesLine(t, w, "custom 9 "+long, api.ErrNode)
		refusesLine(t, w, "custom 1 "+long, api.ErrRange)
		for _, told := range []string{"bad", long[1:], "", " "} {
			if e := w.Custom(1, told); e != api.OK || w.Doc().Ctls[1].Custom != told {
				t.Errorf("%s: Custom answers %d: %q", name, e, w.Doc().Ctls[1].Custom)
			}
		}
		run(t, w, "custom 1 ")
		is(t, name, w, 1, ahead)
	}
}

func TestP25_2(t *testing.T) {
	w := page(t, form("", in("")))
	long := strings.Repeat("x", api.MaxText+1)
	acts := func(list ...api.Act) api.Listener { return api.Listener{Node: 1, Type: "click", Acts: list} }
	one := api.Act{Kind: api.APrevent}
	type row struct {
		why  string
		l    api.Listener
		want api.Errno
	}
	rows := []row{
		{"a type that is too long", api.Listener{Node: 1, Type: long[:21]}, api.ErrRange},
		{"nine acts", acts(one, one, one, one, one, one, one, one, one), api.ErrRange},
		{"a name that is too long", acts(one, api.Act{Kind: api.ASet, Name: long}), api.ErrRange},
		{"a value that is too long", acts(one, api.Act{Kind: api.ASet, Value: long}), api.ErrRange},
		{"a value that is too long of no act", acts(api.Act{Kind: 99, Value: long}), api.ErrRange},
		{"no act, and a value that is too long", acts(api.Act{Kind: 99}, api.Act{Kind: api.ASet, Value: long}), api.ErrRange},
		{"nine of no act", acts(make([]api.Act, 9)...), api.ErrRange},
		{"an act of 0", acts(one, api.Act{}), api.ErrKind},
		{"an act of 14", acts(api.Act{Kind: 14}), api.ErrKind},
		{"an act of -1", acts(api.Act{Kind: -1}), api.ErrKind},
		{"an act of 2^32 and 1", acts(api.Act{Kind: 1<<32 + 1}), api.ErrKind},
	}
	for _, id := range noNodes {
		rows = append(rows, row{"no node", api.Listener{Node: id, Type: long, Acts: make([]api.Act, 9)}, api.ErrNode})
	}
	for _, r := range rows {
		refuses(t, r.why, w, r.want, func() api.Errno { return w.Listen(r.l) })
	}
	whole := acts(slices.Repeat([]api.Act{{Kind: api.ACustom, Node: -7, Name: long[1:], Value: long[1:]}}, 8)...)
	for i, l := range []api.Listener{{}, {Type: long[:20]}, whole, acts(api.Act{Kind: api.ACustom, Node: math.MinInt}, api.Act{Kind: api.ASubmit, Node: 5}, api.Act{Kind: api.APrevent, Node: math.MaxInt})} {
		if e := w.Listen(l); e != api.OK {
			t.Errorf("Listen of %d answers %d", i, e)
		}
	}
	tells(t, "those that were taken are counted, no others", w, "click 2", "event click 2;click 1 3 2;click 1 3 3")
	for range 28 {
		if e := w.Listen(api.Listener{Node: 2, Type: "click"}); e != api.OK {
			t.Fatal(e)
		}
	}
	refuses(t, "one more than 32", w, api.ErrFull, func() api.Errno { return w.Listen(api.Listener{Node: 2, Type: "click"}) })
	refuses(t, "one more that is none", w, api.ErrKind, func() api.Errno { return w.Listen(acts(api.Act{Kind: 14})) })
	refuses(t, "one more that is too long", w, api.ErrRange, func() api.Errno { return w.Listen(acts(api.Act{Kind: 14, Name: long})) })
	refuses(t, "one more at no node", w, api.ErrNode, func() api.Errno { return w.Listen(api.Listener{Node: 3}) })
	w.Click(2)
	if got := w.Log(); got[len(got)-3] != "click 2 2 31" {
		t.Errorf("of 32 listeners is told %v", got)
	}
}

// TestP25_2Each: each of the thirteen is an act.
func TestP25_2Each(t *testing.T) {
	w := page(t)
	for kind := range 13 {
		if e := w.Listen(api.Listener{Acts: []api.Act{{Kind: kind + 1}}}); e != api.OK {
			t.Errorf("an act of %d answers %d", kind+1, e)
		}
	}
}

// TestFire: the log tells what is fired, who is called, and what was refused.
func TestFire(t *testing.T) {
	nested := []part{form("id=f", el("div", "", in(""), el("div", "")))}
	w := page(t, nested...)
	all(t, w, "on 3 input 0 / on 1 input 0 / on 0 input 1 / on 3 input 1 / on 1 input 1 / on 3 click 0 / on 2 input 0 / on 1 input 0 / on 3 inpu 0 / on 4 input 0")
	tells(t, "down, at it, and up", w, "type 3 a", "event input 3;input 0 1 2;input 1 1 4;input 3 2 3;input 3 2 0;input 2 3 6;input 1 3 1;input 1 3 7")
	all(t, w, "on 3 invalid 0 / on 1 invalid 0 / on 1 invalid 1 / custom 3 c")
	tells(t, "down, and at it alone", w, "ask 3", "event invalid 3;invalid 1 1 12;invalid 3 2 10")
	for _, r := range []struct{ why, lines, want string }{
		{"none is stopped", "on 1 click 1 / on 3 click 0", "event click 3;click 1 1 0;click 3 2 1"},
		{"the others of another node", "on 0 click 1 2,0,, / on 0 click 1 / on 1 click 1 / on 3 click 0", "event click 3;click 0 1 0;click 0 1 1"},
		{"at the target both are of one node", "on 3 click 1 2,0,, / on 3 click 0 / on 3 click 0 / on 2 click 0", "event click 3;click 3 2 0;click 3 2 1;click 3 2 2"},
		{"on the way up", "on 3 click 0 / on 2 click 0 2,0,, / on 2 click 0 / on 1 click 0", "event click 3;click 3 2 0;click 2 3 1;click 2 3 2"},
		{"the same node, down and up, where nobody is between", "on 1 click 1 2,0,, / on 1 click 0 / on 0 click 0", "event click 3;click 1 1 0;click 1 3 1"},
		{"the same node, with one between", "on 1 click 1 2,0,, / on 1 click 0 / on 2 click 0", "event click 3;click 1 1 0"},
		{"stopped twice", "on 2 click 1 2,0,, / on 2 click 1 2,0,, / on 2 click 0", "event click 3;click 2 1 0;click 2 1 1;click 2 3 2"},
		{"at all", "on 3 click 1 3,0,, / on 3 click 1 / on 3 click 0 / on 1 click 0", "event click 3;click 3 2 0"},
		{"at all, behind other acts", "on 1 click 1 3,0,, / on 1 click 1", "event click 3;click 1 1 0"},
		{"the acts behind it are done", "on 3 click 0 3,0,, 12,4,, / on 3 click 0", "event click 3;click 3 2 0;event click 4"},
		{"stopped, then ended", "on 3 click 0 2,0,, 3,0,, / on 3 click 0", "event click 3;click 3 2 0"},
		{"one is not the other's", "on 3 click 0 12,4,, / on 4 click 0 3,0,, 2,0,, / on 3 click 0 / on 1 click 0", "event click 3;click 3 2 0;event click 4;click 4 2 1;click 3 2 2;click 1 3 3"},
	} {
		w := page(t, nested...)
		if got := all(t, w, r.lines); strings.Contains(got, "error") {
			t.Errorf("%s: %s", r.why, got)
		}
		tells(t, r.why, w, "click 3", r.want)
	}
	w = page(t, nested...)
	all(t, w, "on 3 click 0 8,2,, / on 2 click 0 / on 1 click 0")
	tells(t, "calls are told as it was", w, "click 3 / click 3", "event click 3;click 3 2 0;click 2 3 1;click 1 3 2;event click 3;click 3 2 0;click 2 3 1")
}

// TestFireMost: an event beyond those within one another, or beyond those of a step, is refused.
func TestFireMost(t *testing.T) {
	w := page(t, el("div", ""), el("div", ""))
	all(t, w, "on 1 click 0 12,1,,")
	deep := strings.Repeat("event click 1;click 1 2 0;", 6) + "refused click 1"
	tells(t, "six within one another", w, "click 1", deep)
	tells(t, "and again", w, "click 1", deep)
	w = page(t, el("div", ""), el("div", ""))
	all(t, w, "on 1 click 0 12,1,, 12,1,,")
	ahead := 0
	for range 3 {
		w.Click(1)
		fired, refused := 0, 0
		for _, line := range w.Log()[ahead:] {
			if strings.HasPrefix(line, "event ") {
				fired++
			} else if strings.HasPrefix(line, "refused click 1") {
				refused++
			}
		}
		if fired != 30 || refused != 31 {
			t.Errorf("a step fires %d events, and refuses %d", fired, refused)
		}
		ahead = len(w.Log())
	}
	w = page(t, el("div", ""))
	for range 4 {
		all(t, w, "on 1 click 0"+strings.Repeat(" 12,0,,", 8))
	}
	eight := strings.Repeat(";event click 0", 8)
	tells(t, "thirty one behind the other", w, "click 1", "event click 1;click 1 2 0"+eight+";click 1 2 1"+eight+";click 1 2 2"+eight+";click 1 2 3"+strings.Repeat(";event click 0", 5)+strings.Repeat(";refused click 0", 3))
	tells(t, "what was refused isn't counted in the next step", w, "click 0", "event click 0")
}

// TestActs: what acts do, and what they can't.
func TestActs(t *testing.T) {
	parts := []part{form("", in("name=a"), in("type=checkbox"), in("type=radio name=r checked"), in("type=radio name=r"), el("textarea", "", txt("t")), el("select", "", el("option", "value=x"), el("option", "value=y"))), txt("u"), el("div", "")}
	// 1 form, 2 a, 3 checkbox, 4 and 5 radio, 6 textarea, 7 its text, 8 select, 9 and 10 options, 11 text, 12 div
	for _, r := range []struct {
		why, acts string
		id        int
		want      string
	}{
		{"set", "4,2,value,v", 2, "=v"},
		{"set, to another type", "4,2,value,7 4,2,type,range", 2, "=7"},
		{"set twice", "4,2,value,v 4,2,value,w", 2, "=w"},
		{"set and unset", "4,2,value,v 5,2,value,x", 2, ""},
		{"unset", "5,4,checked,", 4, ""},
		{"set that settles", "4,5,checked,", 4, ""},
		{"unset that settles", "5,4,name, 4,5,checked, 4,4,name,r", 4, ""},
		{"a name that is none", "4,2,Value,v", 2, ""},
		{"at a text", "4,11,value,v 5,11,value,", 11, ""},
		{"write", "6,2,,v", 2, "=v dirty"},
		{"write of a select", "6,8,,y", 10, "selected dirtyselected"},
		{"write of nothing that a select has", "6,8,,z", 9, "selected"},
		{"write of a text", "6,11,,y", 11, ""},
		{"write of nothing", "6,12,,y", 12, ""},
		{"check", "7,3,,x", 3, "checked dirtychecked"},
		{"check, and not", "7,3,,0 7,3,x,", 3, "dirtychecked"},
		{"check of one of a group", "7,5,,0", 4, ""},
		{"uncheck of one of a group", "7,4,,", 4, "dirtychecked"},
		{"check of nothing", "7,12,,x", 12, ""},
		{"remove that settles", "8,7,,", 6, ""},
		{"remove of an option", "8,9,,", 10, "selected"},
		{"remove twice", "8,7,, 8,7,,", 6, ""},
		{"remove of node 0", "8,0,, 4,2,value,v", 2, "=v"},
		{"custom", "13,2,,bad", 2, "custom:bad"},
		{"custom taken back", "13,2,,bad 13,2,x,", 2, ""},
		{"custom of nothing", "13,12,,bad 13,11,,bad 13,1,,bad", 12, ""},
		{"append", "9,0,n,v 9,2,n,v", 2, ""},
		{"click", "12,3,,", 3, "checked dirtychecked"},
		{"click twice", "12,3,, 12,3,,", 3, "dirtychecked"},
		{"click of a text", "12,11,, 4,2,value,v", 2, "=v"},
		{"of no node", "4,13,value,v 5,99,x, 6,-1,,v 7,13,,x 8,-2,, 10,13,, 11,13,, 12,13,, 13,13,,x 9,-1,, 4,2,value,v", 2, "=v"},
	} {
		w := page(t, parts...)
		for _, acts := range strings.Fields(r.acts) {
			if got := run(t, w, "on 12 click 0 "+acts); got != "ok" {
				t.Errorf("%s: %s", r.why, got)
			}
		}
		w.Click(12)
		is(t, r.why, w, r.id, r.want)
		if strings.Contains(r.why, " no") && len(w.Log()) != strings.Count(r.acts, " ")+2 {
			t.Errorf("%s: the log is %v", r.why, w.Log())
		}
	}
	w := page(t, parts...)
	all(t, w, "write 2 v / on 12 click 0 11,1,, 10,1,, / on 12 click 0 11,2,, 10,2,, 10,11,, 11,11,,")
	tells(t, "reset and submit", w, "click 12", "event click 12;click 12 2 0;event reset 1;event submit 1;event formdata 1;plan 1;click 12 2 1")
	if p := w.Plans(); len(p) != 1 || p[0].Action != "?a=&r=on" {
		t.Errorf("what was reset, then submitted, makes %v", p)
	}
}

// TestActsOrder: the acts are done in order, and each one sees what the one ahead has done.
func TestActsOrder(t *testing.T) {
	w := page(t, form("", in("name=a"), el("div", "")))
	all(t, w, "on 3 click 0 6,2,,1 10,1,, 6,2,,2 10,1,, 4,2,disabled, 10,1,, 8,1,, 10,1,,")
	tells(t, "four submits", w, "click 3", "event click 3;click 3 2 0;event submit 1;event formdata 1;plan 1;event submit 1;event formdata 1;plan 1;event submit 1;event formdata 1;plan 1")
	for i, want := range []string{"?a=1", "?a=2", "?"} {
		if got := w.Plans()[i].Action; got != want {
			t.Errorf("plan %d is %s, not %s", i, got, want)
		}
	}
}

// TestAppend: entries come to the form that the event is of, and to that event alone.
func TestAppend(t *testing.T) {
	w := page(t, form("", in("name=a value=1")), form("", in("name=b value=2")))
	all(t, w, "on 1 formdata 0 9,3,x,y 9,3,,z 10,3,, 9,1,p,q / on 3 formdata 0 9,1,m,n / on 0 formdata 0 9,0,c,d / on 0 submit 0 9,0,e,f / on 1 submit 0 9,1,g,h")
	tells(t, "two forms", w, "submit 1", "event submit 1;submit 1 2 4;submit 0 3 3;event formdata 1;formdata 1 2 0;event submit 3;submit 0 3 3;event formdata 3;formdata 3 2 1;formdata 0 3 2;plan 3;formdata 0 3 2;plan 1")
	got := w.Plans()
	if len(got) != 2 || got[0].Action != "?b=2&m=n&c=d" || got[1].Action != "?a=1&x=y&=z&p=q&c=d" {
		t.Errorf("the plans are %v", got)
	}
	w = page(t, form("", el("div", "")))
	all(t, w, "on 1 formdata 0 12,2,, 9,0,a,b / on 2 click 0 9,1,c,d")
	run(t, w, "submit 1")
	if got := w.Plans()[0].Action; got != "?a=b" {
		t.Errorf("with a click within the plan is %s", got)
	}
}

func TestP25_3Type(t *testing.T) {
	long := strings.Repeat("x", api.MaxText+1)
	w := page(t, form("", in(""), in("disabled"), in("readonly"), in("type=range readonly"), in("type=checkbox readonly"), in("type=file disabled"), el("output", "disabled"), el("textarea", "readonly"), el("select", ""), txt("t"), in("type=hidden disabled")), el("fieldset", "disabled", in("")))
	// 1 form, 2 text, 3 disabled, 4 readonly, 5 range, 6 checkbox, 7 file, 8 output, 9 textarea, 10 select, 11 text, 12 hidden, 13 fieldset, 14
	for line, want := range map[string]api.Errno{
		"type 99 a": api.ErrNode, "type -1 " + long: api.ErrNode,
		"type 3 a": api.ErrState, "type 3 " + long: api.ErrState, "type 4 a": api.ErrState, "type 4 " + long: api.ErrState, "type 9 a": api.ErrState, "type 14 a": api.ErrState, "type 7 a": api.ErrState, "type 12 a": api.ErrState, "type 13 a": api.ErrState,
		"type 2 " + long: api.ErrRange, "type 6 " + long: api.ErrRange, "type 10 " + long: api.ErrRange, "type 11 " + long: api.ErrRange, "type 0 " + long: api.ErrRange,
		"type 6 a": api.ErrKind, "type 8 a": api.ErrKind, "type 10 a": api.ErrKind, "type 11 a": api.ErrKind, "type 1 a": api.ErrKind, "type 0 a": api.ErrKind,
	} {
		refusesLine(t, w, line, want)
	}
	tells(t, "a text", w, "type 2 a\nb", "event input 2")
	is(t, "a text", w, 2, "=ab dirty typed")
	tells(t, "readonly doesn't apply", w, "type 5 7", "event input 5")
	is(t, "a range", w, 5, "=7 dirty typed")
	tells(t, "the same once more", w, "type 2 a\nb / type 2 ", "event input 2;event input 2")
	is(t, "nothing", w, 2, "dirty typed")
	all(t, w, "on 2 input 0 6,2,,z / on 1 input 1 1,0,, / unset 9 readonly")
	tells(t, "listeners", w, "type 2 q", "event input 2;input 1 1 1;input 2 2 0")
	is(t, "written by one", w, 2, "=z dirty")
	tells(t, "an area", w, "type 9 a\r\nb", "event input 9;input 1 1 1")
	is(t, "an area", w, 9, "=a\nb dirty typed")
	tells(t, "a node that isn't connected", w, "remove 1 / type 5 9", "event input 5;input 1 1 1")
}

func TestP25_3Choose(t *testing.T) {
	w := page(t, el("select", "", el("option", ""), el("option", "disabled"), el("optgroup", "", el("option", ""), el("optgroup", "", el("option", ""))), el("optgroup", "disabled", el("option", ""))), el("option", ""), el("datalist", "", el("option", "")), txt("t"))
	// 1 select, 2 option, 3 off, 4 group, 5 option, 6 group, 7 option of none, 8 group, 9 off, 10 of none, 11 datalist, 12, 13 text
	for _, on := range []string{"choose ", "unchoose "} {
		for id, want := range map[string]api.Errno{"99": api.ErrNode, "-1": api.ErrNode, "0": api.ErrNode, "1": api.ErrNode, "4": api.ErrNode, "7": api.ErrNode, "10": api.ErrNode, "12": api.ErrNode, "13": api.ErrNode, "3": api.ErrState, "9": api.ErrState} {
			refusesLine(t, w, on+id, want)
		}
	}
	tells(t, "one of a group", w, "choose 5", "event input 1;event change 1")
	is(t, "the one", w, 5, "selected dirtyselected")
	is(t, "the one that was", w, 2, "dirtyselected")
	tells(t, "the same, off", w, "unchoose 5", "event input 1;event change 1")
	is(t, "still the one", w, 5, "selected dirtyselected")
	all(t, w, "set 1 multiple  / on 1 input 0 / on 1 change 0 / on 5 change 0")
	tells(t, "of a multiple one", w, "unchoose 5 / choose 2", "event input 1;input 1 2 0;event change 1;change 1 2 1;event input 1;input 1 2 0;event change 1;change 1 2 1")
	is(t, "taken away", w, 5, "dirtyselected")
	is(t, "chosen", w, 2, "selected dirtyselected")
	all(t, w, "set 1 disabled ")
	for id, want := range map[string]api.Errno{"2": api.ErrState, "5": api.ErrState, "7": api.ErrNode, "3": api.ErrState} {
		refusesLine(t, w, "choose "+id, want)
	}
	all(t, w, "unset 1 disabled / add fieldset / insert 0 14 -1 / set 14 disabled  / insert 14 1 -1")
	refusesLine(t, w, "choose 2", api.ErrState)
	tells(t, "what isn't connected can be chosen", w, "remove 1 / choose 2", "event input 1;input 1 2 0;event change 1;change 1 2 1")
}

func TestP25_3Pick(t *testing.T) {
	files := func(n int) []api.Entry {
		all := []api.Entry{{}, {Name: "a", Value: "v", FileName: "f", Type: "t"}, {FileName: "\xff", File: true}, {Value: strings.Repeat("x", 2*api.MaxText)}, {}, {}}
		return all[:n]
	}
	w := page(t, in("type=file"), in("type=file multiple"), in("type=file disabled"), in("disabled"), in("multiple"), txt("t"))
	pick := func(id, n int) func() api.Errno { return func() api.Errno { return w.Pick(id, files(n)) } }
	for _, id := range noNodes {
		refuses(t, "no node", w, api.ErrNode, pick(id, 5))
	}
	for _, r := range []struct {
		id, n int
		want  api.Errno
	}{{3, 1, api.ErrState}, {3, 5, api.ErrState}, {4, 0, api.ErrState}, {5, 0, api.ErrKind}, {5, 5, api.ErrKind}, {6, 1, api.ErrKind}, {0, 1, api.ErrKind}, {1, 2, api.ErrRange}, {1, 5, api.ErrRange}, {2, 5, api.ErrRange}, {2, 6, api.ErrRange}} {
		refuses(t, fmt.Sprintf("Pick of %d files of %d", r.n, r.id), w, r.want, pick(r.id, r.n))
	}
	for n := range 5 {
		ahead := len(w.Log())
		if e := w.Pick(2, files(n)); e != api.OK {
			t.Errorf("Pick of %d files answers %d", n, e)
		}
		var want []api.Entry
		for _, f := range files(n) {
			f.File = true
			want = append(want, f)
		}
		if got := w.Doc().Ctls[2]; !reflect.DeepEqual(got, api.Ctl{Files: want}) {
			t.Errorf("%d files are %+v, not %+v", n, got, want)
		}
		if got := strings.Join(w.Log()[ahead:], ";"); got != "event input 2;event change 2" {
			t.Errorf("Pick tells %s", got)
		}
	}
	tells(t, "one, then none", w, "file 1 n hi / nofile 1", "event input 1;event change 1;event input 1;event change 1")
	is(t, "none", w, 1, "")
	all(t, w, "on 1 input 0 4,1,type,text")
	tells(t, "change comes behind input, whatever listeners do", w, "file 1 n hi", "event input 1;input 1 2 0;event change 1")
	is(t, "what is no file any more", w, 1, "file:,hi,true,n,")
}
