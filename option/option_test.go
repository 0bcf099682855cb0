package option

import (
	"math"
	"math/rand"
	"reflect"
	"regexp"
	"slices"
	"strconv"
	"strings"
	"testing"
	"unsafe"

	"counterfoil/api"
	"counterfoil/kinds"
	"counterfoil/tree"
)

// noNodes are numbers that no document's nodes have, such among them as would be one if they were cut.
var noNodes = []int{-1, -2, -400, api.MaxNodes, api.MaxNodes + 1, 1 << 16, 1 << 31, -1 << 31, 1 << 32, 1<<32 + 1, -1<<32 + 1, math.MaxInt, math.MinInt, math.MinInt + 1}

var sizeShape = regexp.MustCompile(`\A[0-9]{1,4}\z`)

// part is a node with what is within it; a text, if its name is empty.
type part struct {
	name, text string
	attrs      []api.Attr
	kids       []part
}

// el is an element with attributes told as "name=value", or "name" alone, with blanks between.
func el(name, attrs string, kids ...part) part {
	p := part{name: name, kids: kids}
	for _, a := range strings.Fields(attrs) {
		n, v, _ := strings.Cut(a, "=")
		p.attrs = append(p.attrs, api.Attr{Name: n, Value: v})
	}
	return p
}

func opt(attrs string, kids ...part) part { return el("option", attrs, kids...) }

func txt(s string) part { return part{text: s} }

// put numbers the parts in order, from len(l) on.
func put(l []api.Node, p part, parent int) []api.Node {
	id := len(l)
	l = append(l, api.Node{Name: p.name, Text: p.text, Attrs: p.attrs, Parent: parent})
	for _, kid := range p.kids {
		l[id].Kids = append(l[id].Kids, len(l))
		l = put(l, kid, id)
	}
	return l
}

func nodes(p part) []api.Node { return put(nil, p, -1) }

// doc has states that begin as nothing, but that the nodes of on are Selected.
func doc(p part, on ...int) api.Doc {
	d := api.Doc{Nodes: nodes(p)}
	d.Ctls = make([]api.Ctl, len(d.Nodes))
	for _, id := range on {
		d.Ctls[id].Selected = true
	}
	return d
}

func picked(l []api.Ctl) []int {
	return places(l, func(c api.Ctl) bool { return c.Selected })
}

func dirty(l []api.Ctl) []int {
	return places(l, func(c api.Ctl) bool { return c.DirtySelected })
}

func places(l []api.Ctl, holds func(c api.Ctl) bool) []int {
	var out []int
	for i, c := range l {
		if holds(c) {
			out = append(out, i)
		}
	}
	return out
}

// plain is l with nil for lists of nothing.
func plain(l []api.Ctl) []api.Ctl {
	own := append([]api.Ctl(nil), l...)
	for i := range own {
		own[i].Files = append([]api.Entry(nil), own[i].Files...)
	}
	return own
}

func same(a, b []api.Ctl) bool { return reflect.DeepEqual(plain(a), plain(b)) }

// The chapter's words once more: options are found among all that is within the select, attributes by layer 10.

func slowHas(l []api.Node, id int, name string) bool {
	_, ok := tree.Attr(l, id, name)
	return ok
}

func slowIs(l []api.Node, id, kind int) bool {
	return tree.Right(l) && slices.Contains(tree.Order(l, tree.Top(l, id)), id) && kinds.Of(l[id]) == kind
}

func slowRight(d api.Doc) bool { return tree.Right(d.Nodes) && len(d.Ctls) == len(d.Nodes) }

func slowList(l []api.Node, sel int) []int {
	if !slowIs(l, sel, api.KSelect) {
		return nil
	}
	return slices.DeleteFunc(tree.Order(l, sel), func(id int) bool {
		up := l[id].Parent
		grouped := id != sel && up != sel && slowIs(l, up, api.KGroup) && l[up].Parent == sel
		return !slowIs(l, id, api.KOption) || up != sel && !grouped
	})
}

func slowOff(l []api.Node, opt int) bool {
	return slowIs(l, opt, api.KOption) && (slowHas(l, opt, "disabled") || slowIs(l, l[opt].Parent, api.KGroup) && slowHas(l, l[opt].Parent, "disabled"))
}

func slowSize(l []api.Node, sel int) int {
	if !slowIs(l, sel, api.KSelect) {
		return 0
	}
	if s, _ := tree.Attr(l, sel, "size"); sizeShape.MatchString(s) {
		if n, _ := strconv.Atoi(s); n >= 1 {
			return n
		}
	}
	if slowHas(l, sel, "multiple") {
		return 4
	}
	return 1
}

func slowText(l []api.Node, opt int) string {
	if !slowIs(l, opt, api.KOption) {
		return ""
	}
	if s, ok := tree.Attr(l, opt, "value"); ok {
		return s
	}
	return strings.Join(strings.FieldsFunc(tree.Text(l, opt), func(r rune) bool { return strings.ContainsRune("\t\n\f\r ", r) }), " ")
}

func slowValue(d api.Doc, sel int) string {
	if !slowRight(d) {
		return ""
	}
	on := slices.DeleteFunc(slowList(d.Nodes, sel), func(id int) bool { return !d.Ctls[id].Selected })
	if len(on) == 0 {
		return ""
	}
	return slowText(d.Nodes, on[0])
}

func slowFix(d api.Doc, sel int) []api.Ctl {
	if !slowRight(d) {
		return nil
	}
	own := slices.Clone(d.Ctls)
	if slowHas(d.Nodes, sel, "multiple") {
		return own
	}
	all := slowList(d.Nodes, sel)
	on := slices.DeleteFunc(slices.Clone(all), func(id int) bool { return !own[id].Selected })
	for len(on) > 1 {
		own[on[0]].Selected = false
		on = on[1:]
	}
	usable := slices.DeleteFunc(slices.Clone(all), func(id int) bool { return slowOff(d.Nodes, id) })
	if len(on) == 0 && slowSize(d.Nodes, sel) == 1 && len(usable) > 0 {
		own[usable[0]].Selected = true
	}
	return own
}

func slowChoose(d api.Doc, opt int, on bool) ([]api.Ctl, api.Errno) {
	if !slowRight(d) {
		return nil, api.ErrNode
	}
	for sel := range d.Nodes {
		all := slowList(d.Nodes, sel)
		if !slices.Contains(all, opt) {
			continue
		}
		if slowOff(d.Nodes, opt) {
			return nil, api.ErrState
		}
		own := slices.Clone(d.Ctls)
		if slowHas(d.Nodes, sel, "multiple") {
			own[opt].Selected, own[opt].DirtySelected = on, true
			return own, api.OK
		}
		for _, id := range all {
			own[id].Selected, own[id].DirtySelected = false, true
		}
		own[opt].Selected = true
		return own, api.OK
	}
	return nil, api.ErrNode
}

func slowWrite(d api.Doc, sel int, s string) []api.Ctl {
	if !slowRight(d) {
		return nil
	}
	own := slices.Clone(d.Ctls)
	found := false
	for _, id := range slowList(d.Nodes, sel) {
		own[id].Selected = !found && slowText(d.Nodes, id) == s
		if own[id].Selected {
			found, own[id].DirtySelected = true, true
		}
	}
	return own
}

func slowReset(d api.Doc, sel int) []api.Ctl {
	if !slowRight(d) {
		return nil
	}
	own := slices.Clone(d.Ctls)
	for _, id := range slowList(d.Nodes, sel) {
		own[id].Selected, own[id].DirtySelected = slowHas(d.Nodes, id, "selected"), false
	}
	return slowFix(api.Doc{Nodes: d.Nodes, Ctls: own}, sel)
}

// drawAttrs draws of the attributes that tell anything, and of some that only look like them.
func drawAttrs(r *rand.Rand) []api.Attr {
	var out []api.Attr
	add := func(odds int, name string, values ...string) {
		if r.Intn(odds) == 0 {
			out = append(out, api.Attr{Name: name, Value: values[r.Intn(len(values))]})
		}
	}
	add(4, "multiple", "", "false")
	add(3, "size", "", "0", "1", "2", "01", "0001", "0000", "00001", "4", "9999", "10000", "-1", "+1", " 1", "1 ", "1.0", "1e3", "a", "١")
	add(4, "disabled", "", "false")
	add(2, "value", "", "a", "b", "a b", " a ", "A")
	add(4, "selected", "", "false")
	add(8, "type", "hidden", "disabled", "radio")
	add(8, "checked", "")
	r.Shuffle(len(out), func(i, j int) { out[i], out[j] = out[j], out[i] })
	return out
}

// drawDoc puts nodes into one another in any way, by layer 10, so that their numbers don't stand in order.
func drawDoc(r *rand.Rand) api.Doc {
	names := []string{"select", "select", "optgroup", "optgroup", "option", "option", "option", "option", "option", "div", "datalist", "form", "input", ""}
	l := []api.Node{{Name: names[r.Intn(len(names)-1)], Parent: -1, Attrs: drawAttrs(r)}}
	for n := r.Intn(14); n > 0; n-- {
		name, s := names[r.Intn(len(names))], ""
		if name == "" {
			s = []string{"", "a", " b", "a \t\n b ", "\u00a0", " \r\f"}[r.Intn(6)]
		}
		l, _, _ = tree.Add(l, name, s)
		if name != "" {
			l[len(l)-1].Attrs = drawAttrs(r)
		}
	}
	for n := 3 * len(l); n > 0; n-- {
		if next, e := tree.Insert(l, r.Intn(len(l)), r.Intn(len(l)), -1); e == api.OK {
			l = next
		}
	}
	return api.Doc{Nodes: l, Ctls: drawStates(r, len(l))}
}

func drawStates(r *rand.Rand, n int) []api.Ctl {
	out := make([]api.Ctl, n)
	few := 1 + r.Intn(6)
	for i := range out {
		c := &out[i]
		for _, f := range []*bool{&c.Dirty, &c.Typed, &c.Checked, &c.DirtyChecked, &c.Mixed, &c.Selected, &c.DirtySelected} {
			*f = r.Intn(few) == 0
		}
		c.Value, c.Custom = []string{"", "v", "a"}[r.Intn(3)], []string{"", "c"}[r.Intn(2)]
		if r.Intn(4) == 0 {
			c.Files = []api.Entry{{Name: "n", Value: "v", File: true, FileName: "f", Type: "t"}, {Value: strconv.Itoa(i)}}[:r.Intn(3)]
		}
	}
	return out
}

// eachDrawn calls f with documents that are drawn, always the same ones, and with numbers of all of their nodes and of none.
func eachDrawn(n int, f func(d api.Doc, id int)) {
	r := rand.New(rand.NewSource(15))
	for range n {
		d := drawDoc(r)
		for id := range d.Nodes {
			f(d, id)
		}
		f(d, noNodes[r.Intn(len(noNodes))])
		f(d, len(d.Nodes))
	}
}

// three is a select with options a (2), b (3), c (4).
func three(sel string, a, b, c string) part {
	return el("html", "", el("select", sel, opt("value=a "+a), opt("value=b "+b), opt("value=c "+c)))
}

// wrong are documents that aren't right, whose node 1 is a select and whose nodes 2 (selected) and 3 (off) are options, if they have them.
func wrong() []api.Doc {
	out := make([]api.Doc, 0, 20)
	add := func(change func(d *api.Doc)) {
		d := doc(three("", "", "disabled", ""), 2)
		change(&d)
		out = append(out, d)
	}
	add(func(d *api.Doc) { d.Ctls = nil })
	add(func(d *api.Doc) { d.Ctls = d.Ctls[:4] })
	add(func(d *api.Doc) { d.Ctls = append(d.Ctls, api.Ctl{}) })
	add(func(d *api.Doc) { d.Nodes = nil })
	add(func(d *api.Doc) { *d = api.Doc{} })
	add(func(d *api.Doc) { d.Nodes = d.Nodes[:4]; d.Ctls = d.Ctls[:4] })
	add(func(d *api.Doc) { d.Nodes[0].Name = "" })
	add(func(d *api.Doc) { d.Nodes[0].Name = "HTML" })
	add(func(d *api.Doc) { d.Nodes[0].Text = "x" })
	add(func(d *api.Doc) { d.Nodes[0].Parent = 1 })
	add(func(d *api.Doc) { d.Nodes[1].Kids[0] = 99 })
	add(func(d *api.Doc) { d.Nodes[1].Kids[0] = -1 })
	add(func(d *api.Doc) { d.Nodes[1].Kids[1] = 2 })
	add(func(d *api.Doc) { d.Nodes[2].Parent = 77 })
	add(func(d *api.Doc) { d.Nodes[2].Parent = -7 })
	add(func(d *api.Doc) { d.Nodes[2].Kids = []int{1}; d.Nodes[1].Parent = 2; d.Nodes[0].Kids = nil })
	add(func(d *api.Doc) { d.Nodes[2].Attrs = append(d.Nodes[2].Attrs, api.Attr{Name: "value"}) })
	add(func(d *api.Doc) { d.Nodes[2].Attrs = []api.Attr{{Name: "Value"}} })
	add(func(d *api.Doc) { d.Nodes[3].Attrs[0].Value = strings.Repeat("x", api.MaxText+1) })
	add(func(d *api.Doc) {
		for len(d.Nodes) <= api.MaxNodes {
			d.Nodes, d.Ctls = append(d.Nodes, api.Node{Name: "option", Parent: -1}), append(d.Ctls, api.Ctl{})
		}
	})
	return out
}

func TestP15_1_Right(t *testing.T) {
	for i, d := range wrong() {
		if Right(d) {
			t.Errorf("wrong document %d is right", i)
		}
	}
	most := doc(three("", "", "", ""))
	for len(most.Nodes) < api.MaxNodes {
		most.Nodes, most.Ctls = append(most.Nodes, api.Node{Name: "option", Parent: -1}), append(most.Ctls, api.Ctl{Files: make([]api.Entry, 1)})
	}
	for i, d := range []api.Doc{most, doc(three("", "", "", "")), doc(el("option", "")), doc(el("a", "", txt("")))} {
		if !Right(d) {
			t.Errorf("right document %d isn't", i)
		}
	}
	eachDrawn(300, func(d api.Doc, id int) {
		if !Right(d) || Right(api.Doc{Nodes: d.Nodes, Ctls: d.Ctls[1:]}) || Right(api.Doc{Nodes: d.Nodes[1:], Ctls: d.Ctls}) {
			t.Fatalf("Right of %+v", d)
		}
	})
}

// checkNothing asks all calls of a node of which they have nothing to tell.
func checkNothing(t *testing.T, d api.Doc, id int, isSelect, isOption bool) {
	t.Helper()
	var kept []api.Ctl
	if Right(d) {
		kept = d.Ctls
	}
	if !isSelect {
		if List(d.Nodes, id) != nil || Size(d.Nodes, id) != 0 || Value(d, id) != "" {
			t.Errorf("%d: List %v, Size %d, Value %q", id, List(d.Nodes, id), Size(d.Nodes, id), Value(d, id))
		}
		if !same(Fix(d, id), kept) || !same(Write(d, id, "a"), kept) || !same(Write(d, id, ""), kept) || !same(Reset(d, id), kept) {
			t.Errorf("%d: Fix %v, Write %v, Reset %v", id, Fix(d, id), Write(d, id, "a"), Reset(d, id))
		}
	}
	if !isOption {
		if Off(d.Nodes, id) || Text(d.Nodes, id) != "" {
			t.Errorf("%d: Off %v, Text %q", id, Off(d.Nodes, id), Text(d.Nodes, id))
		}
		for _, on := range []bool{true, false} {
			if c, e := Choose(d, id, on); c != nil || e != api.ErrNode {
				t.Errorf("%d: Choose %v %v", id, c, e)
			}
		}
	}
}

func TestP15_1_NotThere(t *testing.T) {
	d := doc(three("", "disabled", "", "selected"), 2, 3)
	for _, id := range append(noNodes, 5) {
		checkNothing(t, d, id, false, false)
	}
	checkNothing(t, d, 0, false, false)
	checkNothing(t, d, 1, true, false)
	checkNothing(t, d, 2, false, true)
	others := doc(el("datalist", "value=v size=3 disabled selected", el("optgroup", "disabled value=v", opt("selected disabled")), el("input", "type=select multiple value=a disabled"), txt("a"), el("options", "disabled value=v"), el("selects", "size=2", opt("selected"))), 2, 7)
	for _, id := range []int{0, 1, 3, 4, 5, 6} {
		checkNothing(t, others, id, false, false)
	}
	checkNothing(t, others, 2, false, true)
}

func TestP15_1_Wrong(t *testing.T) {
	for i, d := range wrong() {
		for _, id := range append(noNodes, 0, 1, 2, 3, 4, 5) {
			if tree.Right(d.Nodes) { // the states alone are wrong: calls of the nodes have something to tell
				if Value(d, id) != "" || Fix(d, id) != nil || Write(d, id, "b") != nil || Reset(d, id) != nil {
					t.Errorf("wrong document %d, node %d has states", i, id)
				}
				if c, e := Choose(d, id, true); c != nil || e != api.ErrNode {
					t.Errorf("wrong document %d: Choose of %d is %v %v", i, id, c, e)
				}
				continue
			}
			checkNothing(t, d, id, false, false)
		}
	}
	if d := wrong()[0]; len(List(d.Nodes, 1)) != 3 || Size(d.Nodes, 1) != 1 || Text(d.Nodes, 2) != "a" {
		t.Error("calls of the nodes alone need no states")
	}
}

func TestP15_2_List(t *testing.T) {
	for _, c := range []struct {
		p    part
		want []int
	}{
		{el("select", ""), nil},
		{el("select", "", opt("")), []int{1}},
		{el("select", "", txt("a"), el("div", "", opt("")), el("hr", "")), nil},
		{el("select", "", opt("", txt("a")), opt("disabled"), opt("")), []int{1, 3, 4}},
		{el("select", "", el("optgroup", "disabled", opt(""), txt(" "), opt("")), opt("")), []int{2, 4, 5}},
		{el("select", "", opt(""), el("optgroup", ""), el("optgroup", "", opt("")), opt("")), []int{1, 4, 5}},
		{el("select", "", el("optgroup", "", el("optgroup", "", opt("")), opt(""), el("div", "", opt("")))), []int{4}},
		{el("select", "", opt("", opt(""), el("optgroup", "", opt("")))), []int{1}},
		{el("select", "", el("datalist", "", opt("")), el("select", "", opt("")), el("legend", "", opt(""))), nil},
		{el("select", "multiple disabled", opt("")), []int{1}},
	} {
		if got := List(nodes(c.p), 0); !slices.Equal(got, c.want) {
			t.Errorf("List of %+v is %v, not %v", c.p, got, c.want)
		}
	}
	turned := []api.Node{{Name: "select", Parent: -1, Kids: []int{5, 2, 1}}, {Name: "option"}, {Name: "optgroup", Kids: []int{4, 3}}, {Name: "option", Parent: 2}, {Name: "option", Parent: 2}, {Name: "option"}, {Name: "option", Parent: -1}}
	if got := List(turned, 0); !slices.Equal(got, []int{5, 4, 3, 1}) {
		t.Errorf("List isn't in order: %v", got)
	}
	eachDrawn(1500, func(d api.Doc, id int) {
		if got, want := List(d.Nodes, id), slowList(d.Nodes, id); !slices.Equal(got, want) {
			t.Fatalf("List of %d of %+v is %v, not %v", id, d.Nodes, got, want)
		}
	})
}

func TestP15_2_Off(t *testing.T) {
	l := nodes(el("html", "disabled",
		el("select", "disabled", opt(""), opt("disabled"), opt("disabled=false"), el("optgroup", "disabled", opt(""), el("div", "", opt(""))), el("optgroup", "", opt(""), opt("value=disabled"), opt("disabled"))),
		el("optgroup", "disabled=no", opt(""), el("optgroup", "", opt(""))), el("fieldset", "disabled", opt("")), el("datalist", "disabled", opt("")), opt("selected", opt("")), opt("disabled", opt(""))))
	want := []int{3, 4, 6, 12, 14, 23}
	for id := range l {
		if Off(l, id) != slices.Contains(want, id) {
			t.Errorf("Off of %d, %+v, is %v", id, l[id], Off(l, id))
		}
	}
	if alone := []api.Node{{Name: "option", Parent: -1, Attrs: []api.Attr{{Name: "disabled"}}}, {Name: "option", Parent: -1}}; !Off(alone, 0) || Off(alone, 1) {
		t.Error("Off of options without a parent")
	}
	eachDrawn(1500, func(d api.Doc, id int) {
		if Off(d.Nodes, id) != slowOff(d.Nodes, id) {
			t.Fatalf("Off of %d of %+v is %v", id, d.Nodes, Off(d.Nodes, id))
		}
	})
}

func TestP15_2_Size(t *testing.T) {
	for _, c := range []struct {
		size string
		want int // 0: it tells nothing
	}{
		{"1", 1}, {"2", 2}, {"9", 9}, {"10", 10}, {"999", 999}, {"1000", 1000}, {"9999", 9999}, {"01", 1}, {"0001", 1}, {"0020", 20}, {"0900", 900},
		{"", 0}, {"0", 0}, {"00", 0}, {"0000", 0}, {"10000", 0}, {"00001", 0}, {"99999", 0}, {"4294967297", 0}, {"18446744073709551617", 0}, {strings.Repeat("1", api.MaxText), 0},
		{"-1", 0}, {"+1", 0}, {" 1", 0}, {"1 ", 0}, {"1\n", 0}, {"1.5", 0}, {"1e1", 0}, {"0x1", 0}, {"1_0", 0}, {"a", 0}, {"1a", 0}, {"a1", 0}, {"/", 0}, {":", 0}, {"1/", 0}, {"1:", 0}, {"١", 0}, {"１", 0}, {"\xff", 0}, {"\x00", 0},
	} {
		for _, multiple := range []bool{false, true} {
			l := nodes(el("select", ""))
			l[0].Attrs = []api.Attr{{Name: "size", Value: c.size}}
			want := max(c.want, 1)
			if multiple {
				l[0].Attrs = append(l[0].Attrs, api.Attr{Name: "multiple"})
				if c.want == 0 {
					want = 4
				}
			}
			if got := Size(l, 0); got != want || got != slowSize(l, 0) {
				t.Errorf("Size of %q (multiple: %v) is %d, not %d", c.size, multiple, got, want)
			}
		}
	}
	for attrs, want := range map[string]int{"": 1, "multiple": 4, "multiple=false": 4, "multiples size-=3": 1, "rows=3": 1} {
		if got := Size(nodes(el("html", "size=7", el("select", attrs, opt("size=5 multiple")))), 1); got != want {
			t.Errorf("Size of %q is %d, not %d", attrs, got, want)
		}
	}
	eachDrawn(1000, func(d api.Doc, id int) {
		if Size(d.Nodes, id) != slowSize(d.Nodes, id) {
			t.Fatalf("Size of %d of %+v is %d", id, d.Nodes, Size(d.Nodes, id))
		}
	})
}

func TestP15_2_Text(t *testing.T) {
	withValue := func(s string, kids ...part) part {
		return part{name: "option", attrs: []api.Attr{{Name: "id", Value: "i"}, {Name: "value", Value: s}, {Name: "label", Value: "l"}}, kids: kids}
	}
	long := strings.Repeat(" x", api.MaxText/2)
	for _, c := range []struct {
		p    part
		want string
	}{
		{opt(""), ""}, {opt("label=x"), ""}, {opt("", txt("a")), "a"}, {opt("", txt(" \t\n\f\r")), ""}, {opt("", txt("  One \r\n  two\t")), "One two"}, {opt("", txt("\u00a0a\v \u2003")), "\u00a0a\v \u2003"},
		{opt("", txt("a "), txt(""), txt(" b"), txt("c")), "a bc"}, {opt("", txt("a"), el("b", "", txt("x")), txt("c")), "ac"}, {opt("", el("b", "value=v", txt("x"))), ""}, {opt("label=x values=y", txt("a")), "a"},
		{withValue("v", txt("a")), "v"}, {withValue("", txt("a")), ""}, {withValue("  a \n b ", txt("x")), "  a \n b "}, {withValue("\xff"), "\xff"}, {opt("", txt("\xff  \xfe")), "\xff \xfe"},
		{opt("", txt(long), txt(long)), strings.TrimPrefix(long+long, " ")}, {withValue(long), long}, {opt("value", txt("a")), ""},
	} {
		if got := Text(nodes(el("select", "value=s", c.p)), 1); got != c.want {
			t.Errorf("Text of %+v is %q, not %q", c.p, got, c.want)
		}
		if got := Text(nodes(c.p), 0); got != c.want {
			t.Errorf("Text of %+v without a select is %q, not %q", c.p, got, c.want)
		}
	}
	eachDrawn(1500, func(d api.Doc, id int) {
		if Text(d.Nodes, id) != slowText(d.Nodes, id) {
			t.Fatalf("Text of %d of %+v is %q", id, d.Nodes, Text(d.Nodes, id))
		}
	})
}

func TestP15_3(t *testing.T) {
	grouped := el("html", "", el("select", "", opt("value=a"), el("optgroup", "", opt("value=b"), opt("", txt(" c  c "))), opt("value=d disabled"), opt("", opt("value=x"))), opt("value=y"))
	for _, c := range []struct {
		p    part
		on   []int
		want string
	}{
		{three("", "", "", ""), nil, ""}, {three("", "selected", "", ""), nil, ""}, {three("", "", "", ""), []int{2}, "a"}, {three("", "", "", ""), []int{4}, "c"}, {three("", "", "", ""), []int{3, 4}, "b"}, {three("multiple", "", "", ""), []int{3, 4}, "b"}, {three("", "", "disabled", ""), []int{3, 4}, "b"}, {three("value=s", "", "", ""), []int{0, 1}, ""},
		{grouped, []int{4, 7}, "b"}, {grouped, []int{5}, "c c"}, {grouped, []int{7}, "d"}, {grouped, []int{8}, ""}, {grouped, []int{0, 1, 3, 9, 10}, ""}, {el("html", "", el("select", "", opt("value="), opt("value=b"))), []int{2, 3}, ""},
	} {
		if got := Value(doc(c.p, c.on...), 1); got != c.want {
			t.Errorf("Value of %+v with %v is %q, not %q", c.p, c.on, got, c.want)
		}
	}
	turned := api.Doc{Nodes: []api.Node{{Name: "select", Parent: -1, Kids: []int{2, 1}}, {Name: "option", Attrs: []api.Attr{{Name: "value", Value: "a"}}}, {Name: "option", Attrs: []api.Attr{{Name: "value", Value: "b"}}}}, Ctls: []api.Ctl{{}, {Selected: true}, {Selected: true}}}
	if got := Value(turned, 0); got != "b" {
		t.Errorf("the first in order isn't told, but %q", got)
	}
	if got := Value(api.Doc{Nodes: turned.Nodes, Ctls: []api.Ctl{{Value: "s", Checked: true}, {Checked: true, Value: "x"}, {DirtySelected: true}}}, 0); got != "" {
		t.Errorf("none is selected, but Value is %q", got)
	}
	eachDrawn(1500, func(d api.Doc, id int) {
		if Value(d, id) != slowValue(d, id) {
			t.Fatalf("Value of %d of %+v is %q", id, d, Value(d, id))
		}
	})
}

func TestP15_4(t *testing.T) {
	grouped := el("html", "", el("select", "", opt("disabled"), el("optgroup", "disabled", opt("")), el("optgroup", "", opt("disabled"), opt(""), opt("")), opt("")), opt("selected"))
	for _, c := range []struct {
		p        part
		on, want []int
	}{
		{three("", "", "", ""), nil, []int{2}}, {three("", "", "", ""), []int{3}, []int{3}}, {three("", "", "", ""), []int{2, 3}, []int{3}}, {three("", "", "", ""), []int{2, 3, 4}, []int{4}},
		{three("", "disabled", "", ""), nil, []int{3}}, {three("", "disabled", "", ""), []int{2}, []int{2}}, {three("", "", "", "disabled"), []int{3, 4}, []int{4}}, {three("", "disabled", "disabled", "disabled"), nil, nil}, {three("", "disabled", "disabled", "disabled"), []int{2, 3}, []int{3}},
		{three("", "", "selected", ""), nil, []int{2}}, {three("disabled", "", "", ""), nil, []int{2}},
		{three("size=1", "", "", ""), nil, []int{2}}, {three("size=2", "", "", ""), nil, nil}, {three("size=2", "", "", ""), []int{2}, []int{2}}, {three("size=2", "", "", ""), []int{2, 4}, []int{4}}, {three("size=0", "", "", ""), nil, []int{2}}, {three("size=00002", "", "", ""), nil, []int{2}},
		{three("multiple", "", "", ""), nil, nil}, {three("multiple", "", "", ""), []int{2, 4}, []int{2, 4}}, {three("multiple size=1", "", "", ""), nil, nil}, {three("multiple=false size=1", "", "", ""), []int{2, 3, 4}, []int{2, 3, 4}},
		{three("", "", "", ""), []int{0, 1}, []int{0, 1, 2}}, {grouped, nil, []int{7}}, {grouped, []int{2, 4, 6, 10}, []int{6, 10}}, {grouped, []int{4, 7, 8, 9}, []int{9}}, {el("html", "", el("select", "")), nil, nil},
	} {
		d := doc(c.p, c.on...)
		if got := Fix(d, 1); !slices.Equal(picked(got), c.want) || dirty(got) != nil {
			t.Errorf("Fix of %+v with %v selects %v, not %v", c.p, c.on, picked(got), c.want)
		}
	}
	turned := api.Doc{Nodes: []api.Node{{Name: "select", Parent: -1, Kids: []int{3, 1, 2}}, {Name: "option"}, {Name: "option"}, {Name: "option"}}, Ctls: make([]api.Ctl, 4)}
	if got := Fix(turned, 0); !slices.Equal(picked(got), []int{3}) {
		t.Errorf("the first in order isn't selected, but %v", picked(got))
	}
	turned.Ctls = []api.Ctl{{}, {Selected: true, DirtySelected: true}, {Custom: "c"}, {Selected: true, Value: "v"}}
	if got, want := Fix(turned, 0), []api.Ctl{{}, {Selected: true, DirtySelected: true}, {Custom: "c"}, {Value: "v"}}; !same(got, want) {
		t.Errorf("Fix is %+v, not %+v", got, want)
	}
	eachDrawn(2500, func(d api.Doc, id int) {
		if got, want := Fix(d, id), slowFix(d, id); !same(got, want) {
			t.Fatalf("Fix of %d of %+v is %+v, not %+v", id, d, got, want)
		}
	})
}

func TestP15_5(t *testing.T) {
	grouped := el("html", "", el("select", "", opt(""), el("optgroup", "", opt(""), opt("disabled")), el("optgroup", "disabled", opt("")), opt("", opt(""))), opt(""), el("optgroup", "", opt(""), opt("disabled")))
	multiple := el("html", "", el("select", "multiple size=1", opt(""), el("optgroup", "", opt(""), opt("disabled")), opt("")))
	for _, c := range []struct {
		p           part
		was         []int
		opt         int
		on          bool
		want, dirty []int
		e           api.Errno
	}{
		{three("", "", "", ""), nil, 3, true, []int{3}, []int{2, 3, 4}, api.OK}, {three("", "", "", ""), []int{2}, 3, true, []int{3}, []int{2, 3, 4}, api.OK}, {three("", "", "", ""), []int{2, 4}, 3, false, []int{3}, []int{2, 3, 4}, api.OK}, {three("", "", "", ""), []int{3}, 3, false, []int{3}, []int{2, 3, 4}, api.OK},
		{three("size=3", "", "", ""), []int{2}, 4, true, []int{4}, []int{2, 3, 4}, api.OK}, {three("size=3", "", "", ""), []int{4}, 4, false, []int{4}, []int{2, 3, 4}, api.OK}, {three("disabled", "", "", ""), nil, 2, true, []int{2}, []int{2, 3, 4}, api.OK}, {three("", "disabled", "", ""), []int{0, 1, 2}, 4, true, []int{0, 1, 4}, []int{2, 3, 4}, api.OK},
		{three("", "", "disabled", ""), nil, 3, true, nil, nil, api.ErrState}, {three("", "", "disabled", ""), []int{3}, 3, false, nil, nil, api.ErrState}, {three("multiple", "", "disabled", ""), nil, 3, true, nil, nil, api.ErrState},
		{grouped, []int{2, 8, 9, 11}, 4, true, []int{4, 9, 11}, []int{2, 4, 5, 7, 8}, api.OK}, {grouped, nil, 5, true, nil, nil, api.ErrState}, {grouped, nil, 7, true, nil, nil, api.ErrState}, {grouped, nil, 9, true, nil, nil, api.ErrNode}, {grouped, nil, 10, true, nil, nil, api.ErrNode}, {grouped, nil, 12, true, nil, nil, api.ErrNode}, {grouped, nil, 13, true, nil, nil, api.ErrNode}, {grouped, nil, 3, true, nil, nil, api.ErrNode}, {grouped, nil, 1, true, nil, nil, api.ErrNode},
		{multiple, nil, 4, true, []int{4}, []int{4}, api.OK}, {multiple, []int{2}, 4, true, []int{2, 4}, []int{4}, api.OK}, {multiple, []int{2, 4}, 4, false, []int{2}, []int{4}, api.OK}, {multiple, []int{2}, 4, false, []int{2}, []int{4}, api.OK}, {multiple, []int{4}, 4, true, []int{4}, []int{4}, api.OK}, {multiple, []int{6}, 6, false, nil, []int{6}, api.OK}, {multiple, []int{6}, 5, true, nil, nil, api.ErrState},
	} {
		got, e := Choose(doc(c.p, c.was...), c.opt, c.on)
		if e != c.e || !slices.Equal(picked(got), c.want) || !slices.Equal(dirty(got), c.dirty) || e != api.OK && got != nil {
			t.Errorf("Choose of %d, %v, of %+v with %v selects %v and changes %v (%v), not %v and %v (%v)", c.opt, c.on, c.p, c.was, picked(got), dirty(got), e, c.want, c.dirty, c.e)
		}
	}
	deep := doc(el("select", "", el("optgroup", "", el("optgroup", "", opt(""), opt("disabled")), el("div", "", opt("disabled"))), el("div", "", opt(""))))
	for _, id := range []int{3, 4, 6, 8} {
		if c, e := Choose(deep, id, true); c != nil || e != api.ErrNode {
			t.Errorf("Choose of %d, which is too deep, is %v %v", id, c, e)
		}
	}
	top := api.Doc{Nodes: []api.Node{{Name: "option", Parent: -1}, {Name: "optgroup", Parent: -1, Kids: []int{2}}, {Name: "option", Parent: 1}, {Name: "select", Parent: -1}}, Ctls: make([]api.Ctl, 4)}
	for id := range top.Nodes {
		if c, e := Choose(top, id, true); c != nil || e != api.ErrNode {
			t.Errorf("Choose of %d, which stands in no select, is %v %v", id, c, e)
		}
	}
	eachDrawn(2500, func(d api.Doc, id int) {
		for _, on := range []bool{true, false} {
			got, e := Choose(d, id, on)
			if want, f := slowChoose(d, id, on); e != f || !same(got, want) || e != api.OK && got != nil {
				t.Fatalf("Choose of %d, %v, of %+v is %+v (%v), not %+v (%v)", id, on, d, got, e, want, f)
			}
		}
	})
}

func TestP15_6_Write(t *testing.T) {
	twice := el("html", "", el("select", "", opt("value=a"), el("optgroup", "", opt("", txt(" b  b ")), opt("value=c disabled")), opt("value=c"), opt("value="), opt("")), opt("value=z"))
	for _, c := range []struct {
		p           part
		was         []int
		s           string
		want, dirty []int
	}{
		{three("", "", "", ""), nil, "b", []int{3}, []int{3}}, {three("", "", "", ""), []int{2}, "b", []int{3}, []int{3}}, {three("", "", "", ""), []int{2}, "a", []int{2}, []int{2}}, {three("", "", "", ""), []int{2, 3}, "z", nil, nil}, {three("", "", "", ""), []int{2}, "", nil, nil}, {three("", "", "", ""), []int{2}, "A", nil, nil}, {three("", "", "", ""), []int{2}, " a", nil, nil}, {three("", "", "", ""), []int{0, 1, 2}, "c", []int{0, 1, 4}, []int{4}},
		{three("multiple", "", "", ""), []int{2, 3}, "c", []int{4}, []int{4}}, {three("multiple", "", "", ""), []int{2, 3}, "a", []int{2}, []int{2}}, {three("multiple", "", "", ""), []int{2, 3}, "z", nil, nil}, {three("size=2", "", "", ""), []int{2}, "z", nil, nil}, {three("", "", "disabled", ""), nil, "b", []int{3}, []int{3}},
		{twice, []int{2}, "c", []int{6}, []int{6}}, {twice, []int{2}, "b b", []int{4}, []int{4}}, {twice, []int{2}, " b  b ", nil, nil}, {twice, []int{2, 10}, "", []int{8, 10}, []int{8}}, {twice, []int{10}, "z", []int{10}, nil}, {twice, []int{6, 7}, strings.Repeat("c", api.MaxText+1), nil, nil},
	} {
		got := Write(doc(c.p, c.was...), 1, c.s)
		if !slices.Equal(picked(got), c.want) || !slices.Equal(dirty(got), c.dirty) {
			t.Errorf("Write of %q to %+v with %v selects %v and changes %v, not %v and %v", c.s, c.p, c.was, picked(got), dirty(got), c.want, c.dirty)
		}
	}
	d := doc(three("", "", "", ""), 2)
	d.Ctls[2].DirtySelected = true
	if got := Write(d, 1, "b"); !slices.Equal(dirty(got), []int{2, 3}) {
		t.Errorf("what was changed earlier is %v", dirty(got))
	}
	eachDrawn(2500, func(d api.Doc, id int) {
		for _, s := range []string{"", "a", "b", "a b", "nothing"} {
			if got, want := Write(d, id, s), slowWrite(d, id, s); !same(got, want) {
				t.Fatalf("Write of %q to %d of %+v is %+v, not %+v", s, id, d, got, want)
			}
		}
	})
}

func TestP15_6_Reset(t *testing.T) {
	grouped := el("html", "", el("select", "", opt("disabled"), el("optgroup", "", opt("selected=false"), opt("")), opt("", opt("selected"))), opt("selected"))
	for _, c := range []struct {
		p         part
		was, want []int
	}{
		{three("", "", "", ""), []int{4}, []int{2}}, {three("", "", "selected", ""), []int{4}, []int{3}}, {three("", "selected", "", "selected=false"), nil, []int{4}}, {three("", "disabled", "", ""), []int{2}, []int{3}}, {three("", "disabled selected", "", ""), nil, []int{2}}, {three("", "value2=selected", "", ""), []int{3}, []int{2}},
		{three("size=2", "", "", ""), []int{3}, nil}, {three("size=2", "selected", "selected", ""), nil, []int{3}}, {three("multiple", "", "", ""), []int{2, 3}, nil}, {three("multiple", "selected", "", "selected"), []int{3}, []int{2, 4}}, {three("selected", "", "", ""), []int{0, 1, 3}, []int{0, 1, 2}},
		{grouped, []int{2, 6, 7}, []int{4, 7}}, {grouped, nil, []int{4}}, {three("", "disabled", "disabled", "disabled"), []int{3}, nil},
	} {
		d := doc(c.p, c.was...)
		for i := range d.Ctls {
			d.Ctls[i].DirtySelected = true
		}
		got := Reset(d, 1)
		all := List(d.Nodes, 1)
		changed := slices.DeleteFunc(dirty(d.Ctls), func(id int) bool { return slices.Contains(all, id) })
		if !slices.Equal(picked(got), c.want) || !slices.Equal(dirty(got), changed) {
			t.Errorf("Reset of %+v with %v selects %v, not %v; %v are changed, not %v", c.p, c.was, picked(got), c.want, dirty(got), changed)
		}
	}
	eachDrawn(2500, func(d api.Doc, id int) {
		if got, want := Reset(d, id), slowReset(d, id); !same(got, want) {
			t.Fatalf("Reset of %d of %+v is %+v, not %+v", id, d, got, want)
		}
	})
}

func TestP15_7(t *testing.T) {
	seen := 0
	eachDrawn(4000, func(d api.Doc, sel int) {
		if sel < 0 || sel >= len(d.Nodes) || d.Nodes[sel].Name != "select" || slowHas(d.Nodes, sel, "multiple") || slowSize(d.Nodes, sel) != 1 {
			return
		}
		all := slowList(d.Nodes, sel)
		if !slices.ContainsFunc(all, func(id int) bool { return !slowOff(d.Nodes, id) }) {
			return
		}
		seen++
		for _, got := range [][]api.Ctl{Fix(d, sel), Reset(d, sel), Fix(api.Doc{Nodes: d.Nodes, Ctls: Write(d, sel, "nothing")}, sel)} {
			if on := slices.DeleteFunc(picked(got), func(id int) bool { return !slices.Contains(all, id) }); len(on) != 1 {
				t.Fatalf("%v are selected of %v of %+v", on, all, d)
			}
			if again := Fix(api.Doc{Nodes: d.Nodes, Ctls: got}, sel); !same(again, got) {
				t.Fatalf("Fix of %+v once more is %+v", got, again)
			}
		}
	})
	if seen < 100 {
		t.Errorf("only %d such selects were drawn", seen)
	}
}

func TestExamples(t *testing.T) {
	d := doc(el("select", "", opt("value=a"), opt("value=b")))
	if got := Fix(d, 0); !slices.Equal(picked(got), []int{1}) {
		t.Errorf("Fix selects %v", picked(got))
	}
	if got, e := Choose(d, 2, true); e != api.OK || !slices.Equal(picked(got), []int{2}) {
		t.Errorf("Choose selects %v (%v)", picked(got), e)
	}
}

// roomy is a copy of list, with spare room behind it that is filled by more.
func roomy[T any](list []T, more ...T) []T {
	return append(slices.Clone(list), more...)[:len(list)]
}

// roomyDoc has spare room behind each of its lists, and states that share their files.
func roomyDoc() api.Doc {
	d := doc(el("html", "", el("select", "name=n size=1", opt("value=aaaa selected"), el("optgroup", "label=l", opt("value=bbbb"), opt("", txt("cc  cc"))), opt("disabled"))), 2, 4)
	files := roomy([]api.Entry{{Name: "name", Value: "content", File: true, FileName: "a.txt", Type: "text/plain"}, {Name: "other"}}, api.Entry{Name: "spare"})
	for i := range d.Nodes {
		d.Nodes[i].Attrs = roomy(d.Nodes[i].Attrs, api.Attr{Name: "spare", Value: "spare"})
		d.Nodes[i].Kids = roomy(d.Nodes[i].Kids, 77, 78)
		d.Ctls[i].Value, d.Ctls[i].Custom, d.Ctls[i].Files = "value", "custom", files
	}
	return api.Doc{Nodes: roomy(d.Nodes, api.Node{Name: "spare"}), Ctls: roomy(d.Ctls, api.Ctl{Value: "spare"})}
}

// wholly is all of d, up to the ends of its spare rooms.
func wholly(d api.Doc) api.Doc {
	all := api.Doc{Nodes: slices.Clone(d.Nodes[:cap(d.Nodes)]), Ctls: slices.Clone(d.Ctls[:cap(d.Ctls)])}
	for i := range all.Nodes {
		n := &all.Nodes[i]
		n.Attrs, n.Kids = slices.Clone(n.Attrs[:cap(n.Attrs)]), slices.Clone(n.Kids[:cap(n.Kids)])
	}
	for i := range all.Ctls {
		all.Ctls[i].Files = slices.Clone(all.Ctls[i].Files[:cap(all.Ctls[i].Files)])
	}
	return all
}

func at(s string) *byte {
	if s == "" {
		return nil
	}
	return unsafe.StringData(s)
}

// memory is where the texts and the files of states lie.
func memory(l []api.Ctl) map[any]int {
	out := map[any]int{}
	for i := range l {
		for _, s := range []string{l[i].Value, l[i].Custom} {
			out[at(s)]++
		}
		for j := range l[i].Files {
			f := &l[i].Files[j]
			out[f]++
			for _, s := range []string{f.Name, f.Value, f.FileName, f.Type} {
				out[at(s)]++
			}
		}
	}
	delete(out, (*byte)(nil))
	return out
}

func TestR4_States(t *testing.T) {
	calls := map[string]func(d api.Doc) []api.Ctl{
		"Fix":            func(d api.Doc) []api.Ctl { return Fix(d, 1) },
		"Fix of none":    func(d api.Doc) []api.Ctl { return Fix(d, -1) },
		"Fix of an html": func(d api.Doc) []api.Ctl { return Fix(d, 0) },
		"Choose":         func(d api.Doc) []api.Ctl { c, _ := Choose(d, 5, true); return c },
		"Choose of many": func(d api.Doc) []api.Ctl {
			d.Nodes[1].Attrs[0].Name = "multiple"
			defer func() { d.Nodes[1].Attrs[0].Name = "name" }()
			c, _ := Choose(d, 5, true)
			return c
		},
		"Write":         func(d api.Doc) []api.Ctl { return Write(d, 1, "bbbb") },
		"Write to none": func(d api.Doc) []api.Ctl { return Write(d, 99, "bbbb") },
		"Reset":         func(d api.Doc) []api.Ctl { return Reset(d, 1) },
		"Reset of none": func(d api.Doc) []api.Ctl { return Reset(d, 99) },
	}
	for name, call := range calls {
		d := roomyDoc()
		was := wholly(d)
		first, second := call(d), call(d)
		if len(first) != len(d.Ctls) || !reflect.DeepEqual(first, second) {
			t.Errorf("%s answers %+v, then %+v", name, first, second)
		}
		theirs := memory(slices.Concat(d.Ctls, second))
		for place, times := range memory(first) {
			if times > 1 || theirs[place] > 0 {
				t.Errorf("%s shares memory", name)
				break
			}
		}
		for i := range first {
			files := first[i].Files[:cap(first[i].Files)]
			for j := range files {
				files[j] = api.Entry{Name: "mark"}
			}
		}
		for i := range first[:cap(first)] {
			first[:cap(first)][i] = api.Ctl{Value: "mark"}
		}
		if !reflect.DeepEqual(wholly(d), was) || !reflect.DeepEqual(call(d), second) {
			t.Errorf("%s has changed what was handed in, or keeps what it answered", name)
		}
	}
}

func TestR4_Texts(t *testing.T) {
	d := roomyDoc()
	was := wholly(d)
	texts := func(id int) []string {
		d.Ctls[2].Selected, d.Ctls[4].Selected, d.Ctls[5].Selected = id == 2, id == 4, id == 5
		return []string{Text(d.Nodes, id), Text(d.Nodes, id), Value(d, 1), Value(d, 1)}
	}
	for id, want := range map[int]string{2: "aaaa", 4: "bbbb", 5: "cc cc"} {
		seen := map[*byte]int{}
		for _, n := range d.Nodes {
			seen[at(n.Text)]++
			for _, a := range n.Attrs {
				seen[at(a.Value)]++
			}
		}
		for _, s := range texts(id) {
			if s != want || seen[at(s)] > 0 {
				t.Errorf("%q, not %q, or it shares memory", s, want)
			}
			seen[at(s)]++
		}
	}
	d.Ctls[2].Selected, d.Ctls[4].Selected, d.Ctls[5].Selected = true, true, false
	first, second := List(d.Nodes, 1), List(d.Nodes, 1)
	for i := range first[:cap(first)] {
		first[:cap(first)][i] = -5
	}
	if !slices.Equal(second, []int{2, 4, 5, 7}) || !slices.Equal(List(d.Nodes, 1), second) {
		t.Errorf("List is %v, then %v", second, List(d.Nodes, 1))
	}
	Off(d.Nodes, 7)
	Size(d.Nodes, 1)
	if !Right(d) || !reflect.DeepEqual(wholly(d), was) {
		t.Error("what was handed in is changed")
	}
}

// TestLeft leaves the range early, ahead of and within a group.
func TestLeft(t *testing.T) {
	l := nodes(el("select", "", opt(""), el("optgroup", "", opt(""), opt("")), opt("")))
	all := List(l, 0)
	for n := 1; n <= len(all); n++ {
		var got []int
		for opt := range options(l, 0) {
			if got = append(got, opt); len(got) == n {
				break
			}
		}
		if !slices.Equal(got, all[:n]) {
			t.Errorf("%d options are %v", n, got)
		}
	}
}
