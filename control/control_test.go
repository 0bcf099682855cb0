package control

import (
	"math"
	"reflect"
	"slices"
	"strings"
	"testing"
	"unsafe"

	"counterfoil/api"
	"counterfoil/clean"
)

// The kinds by the ways in which they have their value, as the chapters list them; buttons are the three kinds of button.
var (
	own      = []int{2, 3, 4, 5, 6, 7, 8, 9, 10, 11, 12, 13, 14, 15, api.KArea, api.KOutput}
	ticked   = []int{api.KCheckbox, api.KRadio}
	defaults = []int{api.KHidden, api.KSubmit, api.KImage, api.KReset, api.KButton}
	buttons  = []int{api.KSubmits, api.KResets, api.KPlain}
	none     = []int{api.KNone, api.KSelect, api.KFieldset, api.KForm, api.KLabel, api.KOption, api.KGroup, api.KLegend, api.KList}
)

// noKinds are numbers of no kind, such among them as would be one if they were cut.
var noKinds = []int{-1, -2, -16, -24, 36, 100, 256 + api.KText, 1<<16 + api.KCheckbox, 1<<32 + api.KText, 1<<32 + api.KFile, -1<<32 + api.KArea, math.MaxInt, math.MinInt, math.MinInt + api.KText}

var allKinds = slices.Concat(own, ticked, defaults, buttons, []int{api.KFile}, none, noKinds)

// withoutValue are the kinds of which no call but Start, Changed, Retype and Reset says anything.
var withoutValue = slices.Concat(none, noKinds)

func with(l ...string) []api.Attr {
	var out []api.Attr
	for i := 0; i < len(l); i += 2 {
		out = append(out, api.Attr{Name: l[i], Value: l[i+1]})
	}
	return out
}

func value(s string) []api.Attr { return with("value", s) }

// states are of all sorts, such among them as no steps would lead to.
func states() []api.Ctl {
	files := []api.Entry{{Name: "n", Value: "v", File: true, FileName: "a.txt", Type: "text/plain"}, {FileName: "b"}}
	full := api.Ctl{Value: "a\r\nb", Dirty: true, Typed: true, Checked: true, DirtyChecked: true, Mixed: true, Selected: true, DirtySelected: true, Custom: "wrong", Files: files}
	out := []api.Ctl{{}, full, {Value: "7", Files: files[1:]}, {Value: " a@b , c\n", Dirty: true}, {Value: "2020-02-29", Typed: true, Custom: "c"}, {Files: []api.Entry{}}}
	for bits := range 64 {
		bit := func(n int) bool { return bits>>n&1 == 1 }
		out = append(out, api.Ctl{Value: "12.5", Dirty: bit(0), Checked: bit(1), DirtyChecked: bit(2), Selected: bit(3), DirtySelected: bit(4), Mixed: bit(5), Typed: bit(5)})
	}
	return out
}

func lists() [][]api.Attr {
	return [][]api.Attr{
		nil, {}, value(""), value("a\r\nb"), with("checked", ""), with("selected", "no", "value", "12"), with("multiple", "", "value", " a@b , c "),
		with("value", "2020-02-30", "value", "5"), with("min", "5", "max", "9", "step", "2", "value", "6"), with("max", "3", "value", "2.5", "checked", "false", "selected", ""),
		with("Value", "x", "VALUE", "y", "Checked", "", "SELECTED", "", "checked ", "", "", "z"), with("name", "value", "type", "checked", "x", "selected"),
	}
}

var texts = []string{"", "x", "a\rb\r\nc\nd", "\n", " a@b , c\n", "5", "7.5", "007", "101", "2020-02-29", "2020-W53", "12:00", "2020-01-01 00:00:00", "#ABCDEF", "\xff\r\xfe", "é\u2028", strings.Repeat("\r", 4000)}

// same takes nil and empty lists as one.
func same(a, b api.Ctl) bool {
	if len(a.Files) == 0 && len(b.Files) == 0 {
		a.Files, b.Files = nil, nil
	}
	return reflect.DeepEqual(a, b)
}

func checkState(t *testing.T, what string, got, want api.Ctl) {
	t.Helper()
	if !same(got, want) {
		t.Fatalf("%s is %+v, not %+v", what, got, want) // the first alone: a fault may be told at millions of inputs
	}
}

// eachKind calls f for all kinds, and numbers of none, with all lists of attributes.
func eachKind(f func(kind int, attrs []api.Attr)) {
	for _, kind := range allKinds {
		for _, attrs := range lists() {
			f(kind, attrs)
		}
	}
}

// slowAttr goes through the list from its end, so that the first of a name is the last that is found.
func slowAttr(attrs []api.Attr, name string) (found string, ok bool) {
	for _, a := range slices.Backward(attrs) {
		if a.Name == name {
			found, ok = a.Value, true
		}
	}
	return found, ok
}

func isIn(kind int, l []int) bool { return slices.Contains(l, kind) }

func onlyLines(s string) string {
	return strings.ReplaceAll(strings.ReplaceAll(s, "\r\n", "\n"), "\r", "\n")
}

// slowClean is what becomes of a value that is written.
func slowClean(kind int, attrs []api.Attr, s string) string {
	if kind == api.KArea {
		return onlyLines(s)
	}
	return clean.Value(kind, attrs, s)
}

func slowStart(kind int, attrs []api.Attr, content string) api.Ctl {
	var c api.Ctl
	attr, _ := slowAttr(attrs, "value")
	switch {
	case kind == api.KArea:
		c.Value = onlyLines(content)
	case kind == api.KOutput:
		c.Value = content
	case isIn(kind, own):
		c.Value = clean.Value(kind, attrs, attr)
	case isIn(kind, ticked):
		_, c.Checked = slowAttr(attrs, "checked")
	case kind == api.KOption:
		_, c.Selected = slowAttr(attrs, "selected")
	}
	return c
}

func TestP14_1(t *testing.T) {
	for _, c := range []struct {
		kind  int
		attrs []api.Attr
		text  string
		want  api.Ctl
	}{
		{api.KText, value("a\nb"), "x", api.Ctl{Value: "ab"}}, {api.KText, nil, "x", api.Ctl{}}, {api.KText, value(""), "x", api.Ctl{}}, {api.KText, with("value", "1", "value", "2"), "", api.Ctl{Value: "1"}}, {api.KText, with("Value", "1"), "", api.Ctl{}}, {api.KText, with("checked", "", "selected", "", "value", "v"), "", api.Ctl{Value: "v"}},
		{api.KRange, nil, "7", api.Ctl{Value: "50"}}, {api.KRange, with("value", "7", "min", "10"), "", api.Ctl{Value: "10"}}, {api.KColour, nil, "", api.Ctl{Value: "#000000"}}, {api.KColour, value("#ABCDEF"), "", api.Ctl{Value: "#abcdef"}}, {api.KNumber, value("x"), "5", api.Ctl{}}, {api.KNumber, value("007"), "", api.Ctl{Value: "007"}}, {api.KDate, value("2020-02-30"), "", api.Ctl{}}, {api.KEmail, with("value", " a , b ", "multiple", ""), "", api.Ctl{Value: "a,b"}},
		{api.KArea, value("a"), "x\r\ny\rz\n", api.Ctl{Value: "x\ny\nz\n"}}, {api.KArea, value("a"), "", api.Ctl{}}, {api.KOutput, value("a"), "x\r\ny\r", api.Ctl{Value: "x\r\ny\r"}}, {api.KOutput, value("a"), "", api.Ctl{}},
		{api.KRadio, with("checked", ""), "x", api.Ctl{Checked: true}}, {api.KCheckbox, with("value", "v", "checked", "false"), "", api.Ctl{Checked: true}}, {api.KCheckbox, with("Checked", "", "value", "checked"), "", api.Ctl{}}, {api.KRadio, with("selected", ""), "", api.Ctl{}},
		{api.KOption, with("selected", ""), "x", api.Ctl{Selected: true}}, {api.KOption, with("value", "v", "selected", "false"), "", api.Ctl{Selected: true}}, {api.KOption, with("checked", "", "value", "selected"), "x", api.Ctl{}},
		{api.KHidden, with("value", "a", "checked", ""), "x", api.Ctl{}}, {api.KFile, with("value", "a", "checked", ""), "x", api.Ctl{}}, {api.KSelect, with("value", "a", "selected", ""), "x", api.Ctl{}}, {api.KSubmits, value("a"), "x", api.Ctl{}}, {api.KNone, value("a"), "x", api.Ctl{}},
	} {
		checkState(t, "Start", Start(c.kind, c.attrs, c.text), c.want)
	}
	eachKind(func(kind int, attrs []api.Attr) {
		for _, s := range texts {
			checkState(t, "Start", Start(kind, attrs, s), slowStart(kind, attrs, s))
		}
	})
}

func TestP14_2(t *testing.T) {
	state := api.Ctl{Value: "own", Files: []api.Entry{{Name: "n", Value: "content", FileName: "a.b"}, {FileName: "c"}}}
	one := func(kind int, c api.Ctl, attrs []api.Attr, want string) {
		t.Helper()
		if got := Value(kind, c, attrs); got != want {
			t.Errorf("Value(%d, %+v, %v) is %q, not %q", kind, c, attrs, got, want)
		}
	}
	all := func(l []int, attrs []api.Attr, want string) {
		t.Helper()
		for _, kind := range l {
			one(kind, state, attrs, want)
		}
	}
	for _, attrs := range [][]api.Attr{nil, value("attr"), value("")} {
		all(own, attrs, "own")
		all([]int{api.KFile}, attrs, `C:\fakepath\a.b`)
		all(withoutValue, attrs, "")
	}
	for _, l := range [][]int{defaults, buttons} {
		all(l, nil, "")
		all(l, with("Value", "x", "value ", "y"), "")
		all(l, with("name", "n", "value", "a\r\nb", "value", "c"), "a\r\nb")
	}
	all(ticked, nil, "on")
	all(ticked, with("Value", "x", "name", "value"), "on")
	all(ticked, value(""), "")
	all(ticked, with("name", "n", "value", "a\n", "value", "c"), "a\n")
	one(api.KFile, api.Ctl{Value: "own"}, value("x"), "")
	one(api.KFile, api.Ctl{Files: []api.Entry{}}, nil, "")
	one(api.KFile, api.Ctl{Files: []api.Entry{{Name: "n", Value: "v"}}}, value("x"), `C:\fakepath\`)
	one(api.KFile, api.Ctl{Files: []api.Entry{{FileName: "b/c d\xff"}}}, nil, "C:\\fakepath\\b/c d\xff")
	for _, s := range []string{"", "a\r\nb", "#ABC", strings.Repeat("x", 9000)} { // a state is told as it is
		for _, kind := range own {
			one(kind, api.Ctl{Value: s}, value("attr"), s)
		}
	}
}

func TestP14_3(t *testing.T) {
	for _, c := range []struct {
		kind  int
		attrs []api.Attr
		s     string
		want  string
	}{
		{api.KText, value("v"), "a\r\nb", "ab"}, {api.KArea, value("v"), "a\rb\r\n", "a\nb\n"}, {api.KOutput, nil, "a\rb\r\n", "a\rb\r\n"}, {api.KNumber, nil, "x", ""}, {api.KNumber, nil, "1.50", "1.50"}, {api.KRange, with("max", "10"), "3.4", "3"}, {api.KRange, nil, "", "50"}, {api.KWeek, nil, "2020-W53", "2020-W53"}, {api.KWeek, nil, "2021-W53", ""}, {api.KEmail, nil, " a , b ", "a , b"}, {api.KEmail, with("multiple", ""), " a , b ", "a,b"}, {api.KColour, nil, "#ABCDEF", "#abcdef"},
	} {
		got, set, e := Write(c.kind, api.Ctl{Value: "old", Typed: true, Custom: "c"}, c.attrs, c.s)
		checkState(t, "Write", got, api.Ctl{Value: c.want, Dirty: true, Custom: "c"})
		if set || e != api.OK {
			t.Errorf("Write of kind %d, %q: %v, %d", c.kind, c.s, set, e)
		}
	}
	for _, state := range states() {
		eachKind(func(kind int, attrs []api.Attr) {
			for _, s := range texts {
				checkWrite(t, kind, state, attrs, s)
			}
		})
	}
}

func checkWrite(t *testing.T, kind int, state api.Ctl, attrs []api.Attr, s string) {
	t.Helper()
	want, set, e := state, false, api.OK
	switch {
	case isIn(kind, own):
		want.Value, want.Dirty, want.Typed = slowClean(kind, attrs, s), true, false
	case isIn(kind, ticked), isIn(kind, defaults), isIn(kind, buttons):
		set = true
	case kind == api.KFile && s != "":
		want, e = api.Ctl{}, api.ErrState
	case kind == api.KFile:
		want.Files = nil
	default:
		want, e = api.Ctl{}, api.ErrKind
	}
	got, gotSet, gotE := Write(kind, state, attrs, s)
	checkState(t, "Write", got, want)
	if gotSet != set || gotE != e {
		t.Fatalf("Write of kind %d, %.20q: %v, %d, not %v, %d", kind, s, gotSet, gotE, set, e)
	}
}

// TestP14_3And4Long: bytes are counted as they are handed in, and too many are told ahead of a wrong kind or state.
func TestP14_3And4Long(t *testing.T) {
	full := states()[1]
	most := strings.Repeat("é", api.MaxText/2)
	breaks := strings.Repeat("\r\n", api.MaxText/2)
	for _, kind := range allKinds {
		for _, s := range []string{most + "x", breaks + "\n", strings.Repeat("a", 1<<16)} {
			if c, set, e := Write(kind, full, nil, s); !same(c, api.Ctl{}) || set || e != api.ErrRange {
				t.Errorf("Write of kind %d, %d bytes: %+v, %v, %d", kind, len(s), c, set, e)
			}
			if c, e := Type(kind, full, nil, s); !same(c, api.Ctl{}) || e != api.ErrRange {
				t.Errorf("Type of kind %d, %d bytes: %+v, %d", kind, len(s), c, e)
			}
		}
		for _, s := range []string{most, breaks} {
			checkWrite(t, kind, full, nil, s)
			checkType(t, kind, full, nil, s)
		}
	}
}

func TestP14_4(t *testing.T) {
	got, e := Type(api.KText, api.Ctl{}, nil, "a\nb")
	checkState(t, "Type", got, api.Ctl{Value: "ab", Dirty: true, Typed: true})
	if e != api.OK {
		t.Error(e)
	}
	for _, state := range states() {
		eachKind(func(kind int, attrs []api.Attr) {
			for _, s := range texts {
				checkType(t, kind, state, attrs, s)
			}
		})
	}
}

func checkType(t *testing.T, kind int, state api.Ctl, attrs []api.Attr, s string) {
	t.Helper()
	want, e := api.Ctl{}, api.ErrKind
	if isIn(kind, own) && kind != api.KOutput {
		want, e = state, api.OK
		want.Value, want.Dirty, want.Typed = slowClean(kind, attrs, s), true, true
	}
	got, gotE := Type(kind, state, attrs, s)
	checkState(t, "Type", got, want)
	if gotE != e {
		t.Fatalf("Type of kind %d, %.20q: %d, not %d", kind, s, gotE, e)
	}
}

func TestP14_5(t *testing.T) {
	for _, c := range []struct {
		kind     int
		c        api.Ctl
		attrs    []api.Attr
		name     string
		value    string
		checked  bool
		selected bool
	}{
		{api.KText, api.Ctl{Value: "a"}, value("b\n"), "value", "b", false, false}, {api.KText, api.Ctl{Value: "a"}, nil, "value", "", false, false}, {api.KText, api.Ctl{Value: "a", Dirty: true}, value("b"), "value", "a", false, false}, {api.KText, api.Ctl{Value: "a"}, value("b"), "name", "a", false, false}, {api.KText, api.Ctl{Value: "a"}, value("b"), "Value", "a", false, false}, {api.KText, api.Ctl{Value: "a\n"}, nil, "name", "a\n", false, false}, {api.KText, api.Ctl{Value: "a\n", Dirty: true}, nil, "value", "a", false, false},
		{api.KRange, api.Ctl{Value: "50"}, with("max", "10"), "max", "10", false, false}, {api.KRange, api.Ctl{Value: "50"}, with("max", "10"), "value", "5", false, false}, {api.KRange, api.Ctl{Value: "50", Dirty: true}, with("max", "10"), "value", "10", false, false}, {api.KRange, api.Ctl{Value: "7", Dirty: true}, value("0.6"), "value", "6.6", false, false}, {api.KRange, api.Ctl{Value: "7"}, with("min", "8"), "min", "8", false, false}, {api.KRange, api.Ctl{Value: "7"}, with("step", "10"), "step", "10", false, false}, {api.KRange, api.Ctl{Value: "7"}, with("step", "10"), "", "7", false, false},
		{api.KEmail, api.Ctl{Value: "a , b"}, with("multiple", ""), "multiple", "a,b", false, false}, {api.KEmail, api.Ctl{Value: "a , b", Dirty: true}, with("multiple", ""), "multiple", "a,b", false, false}, {api.KEmail, api.Ctl{Value: "a , b"}, with("multiple", ""), "Multiple", "a , b", false, false},
		{api.KArea, api.Ctl{Value: "a\r"}, value("b"), "value", "a\r", false, false}, {api.KOutput, api.Ctl{Value: "a"}, value("b"), "value", "a", false, false}, {api.KHidden, api.Ctl{Value: "a"}, value("b"), "value", "a", false, false}, {api.KFile, api.Ctl{Value: "a"}, value("b"), "value", "a", false, false},
		{api.KRadio, api.Ctl{}, with("checked", ""), "checked", "", true, false}, {api.KCheckbox, api.Ctl{Checked: true}, nil, "checked", "", false, false}, {api.KCheckbox, api.Ctl{Checked: true, DirtyChecked: true}, nil, "checked", "", true, false}, {api.KCheckbox, api.Ctl{DirtyChecked: true}, with("checked", ""), "checked", "", false, false}, {api.KCheckbox, api.Ctl{Dirty: true, DirtySelected: true}, with("checked", ""), "checked", "", true, false}, {api.KCheckbox, api.Ctl{}, with("checked", ""), "value", "", false, false}, {api.KText, api.Ctl{}, with("checked", ""), "checked", "", false, false}, {api.KOption, api.Ctl{}, with("checked", ""), "checked", "", false, false},
		{api.KOption, api.Ctl{}, with("selected", "x"), "selected", "", false, true}, {api.KOption, api.Ctl{Selected: true}, nil, "selected", "", false, false}, {api.KOption, api.Ctl{Selected: true, DirtySelected: true}, nil, "selected", "", false, true}, {api.KOption, api.Ctl{DirtySelected: true}, with("selected", ""), "selected", "", false, false}, {api.KOption, api.Ctl{Dirty: true, DirtyChecked: true}, with("selected", ""), "selected", "", false, true}, {api.KOption, api.Ctl{}, with("selected", ""), "value", "", false, false}, {api.KCheckbox, api.Ctl{}, with("selected", ""), "selected", "", false, false},
	} {
		want := c.c
		want.Value, want.Checked, want.Selected = c.value, c.checked, c.selected
		checkState(t, "Changed of "+c.name, Changed(c.kind, c.c, c.attrs, c.name), want)
	}
	names := []string{"value", "checked", "selected", "multiple", "min", "max", "step", "", "name", "type", "Value", "CHECKED", "selected ", "pattern", "form"}
	for _, state := range states() {
		eachKind(func(kind int, attrs []api.Attr) {
			for _, name := range names {
				checkState(t, "Changed of "+name, Changed(kind, state, attrs, name), slowChanged(kind, state, attrs, name))
			}
		})
	}
}

func slowChanged(kind int, c api.Ctl, attrs []api.Attr, name string) api.Ctl {
	attr, there := slowAttr(attrs, name)
	if isIn(kind, own) && kind != api.KArea && kind != api.KOutput {
		if name == "value" && !c.Dirty {
			c.Value = clean.Value(kind, attrs, attr)
		} else if slices.Contains([]string{"multiple", "min", "max", "step", "value"}, name) {
			c.Value = clean.Value(kind, attrs, c.Value)
		}
	}
	if isIn(kind, ticked) && name == "checked" && !c.DirtyChecked {
		c.Checked = there
	}
	if kind == api.KOption && name == "selected" && !c.DirtySelected {
		c.Selected = there
	}
	return c
}

func TestP14_6(t *testing.T) {
	dirty := api.Ctl{Value: "a\n", Dirty: true, Typed: true}
	for _, c := range []struct {
		old, kind int
		c         api.Ctl
		attrs     []api.Attr
		want      api.Ctl
		text      string
		set       bool
	}{
		{api.KText, api.KHidden, dirty, value("v"), dirty, "a\n", true}, {api.KText, api.KCheckbox, dirty, nil, dirty, "a\n", true}, {api.KRange, api.KSubmit, dirty, nil, dirty, "a\n", true}, {api.KText, api.KHidden, api.Ctl{Dirty: true}, value("v"), api.Ctl{Dirty: true}, "", false},
		{api.KHidden, api.KNumber, dirty, value("5"), api.Ctl{Value: "5", Typed: true}, "", false}, {api.KHidden, api.KNumber, dirty, value("x"), api.Ctl{Typed: true}, "", false}, {api.KFile, api.KRange, dirty, nil, api.Ctl{Value: "50", Typed: true}, "", false}, {api.KCheckbox, api.KText, dirty, with("value", "v\n", "value", "w"), api.Ctl{Value: "v", Typed: true}, "", false}, {api.KNone, api.KText, dirty, nil, api.Ctl{Typed: true}, "", false},
		{api.KText, api.KFile, dirty, value("v"), api.Ctl{Dirty: true, Typed: true}, "", false}, {api.KHidden, api.KFile, dirty, value("v"), api.Ctl{Dirty: true, Typed: true}, "", false}, {api.KFile, api.KFile, dirty, value("v"), dirty, "", false},
		{api.KText, api.KColour, dirty, value("#ABCDEF"), api.Ctl{Value: "#000000", Dirty: true, Typed: true}, "", false}, {api.KText, api.KText, dirty, value("v"), api.Ctl{Value: "a", Dirty: true, Typed: true}, "", false}, {api.KSearch, api.KDate, api.Ctl{Value: "2020-02-29"}, nil, api.Ctl{Value: "2020-02-29"}, "", false}, {api.KText, api.KArea, api.Ctl{Value: "a\r"}, nil, api.Ctl{Value: "a\r"}, "", false},
		{api.KHidden, api.KCheckbox, dirty, value("v"), dirty, "", false}, {api.KFile, api.KHidden, dirty, value("v"), dirty, "", false}, {api.KText, api.KSubmits, dirty, value("v"), dirty, "", false}, {api.KText, api.KNone, dirty, value("v"), dirty, "", false},
	} {
		got, text, set := Retype(c.old, c.kind, c.c, c.attrs)
		checkState(t, "Retype", got, c.want)
		if text != c.text || set != c.set {
			t.Errorf("Retype from %d to %d: %q, %v", c.old, c.kind, text, set)
		}
	}
	for _, state := range states() {
		eachKind(func(kind int, attrs []api.Attr) {
			for _, old := range allKinds {
				checkRetype(t, old, kind, state, attrs)
			}
		})
	}
}

func checkRetype(t *testing.T, old, kind int, state api.Ctl, attrs []api.Attr) {
	t.Helper()
	want, text, set := state, "", false
	attr, _ := slowAttr(attrs, "value")
	if isIn(old, own) && (isIn(kind, defaults) || isIn(kind, ticked)) && state.Value != "" {
		text, set = state.Value, true
	} else if !isIn(old, own) && isIn(kind, own) {
		want.Value, want.Dirty = attr, false
	} else if old != api.KFile && kind == api.KFile {
		want.Value = ""
	}
	if isIn(kind, own) {
		want.Value = clean.Value(kind, attrs, want.Value)
	}
	got, gotText, gotSet := Retype(old, kind, state, attrs)
	checkState(t, "Retype", got, want)
	if gotText != text || gotSet != set {
		t.Fatalf("Retype from %d to %d: %q, %v, not %q, %v", old, kind, gotText, gotSet, text, set)
	}
}

func TestP14_7(t *testing.T) {
	full := states()[1]
	for _, c := range []struct {
		kind  int
		attrs []api.Attr
		text  string
		want  api.Ctl
	}{
		{api.KText, value("b\n"), "x", api.Ctl{Value: "b"}}, {api.KText, nil, "x", api.Ctl{}}, {api.KRange, nil, "", api.Ctl{Value: "50"}}, {api.KArea, value("b"), "x\r\n", api.Ctl{Value: "x\n"}}, {api.KOutput, nil, "x\r\n", api.Ctl{Value: "x\r\n"}},
		{api.KCheckbox, with("checked", ""), "", api.Ctl{Checked: true}}, {api.KRadio, with("selected", ""), "", api.Ctl{}}, {api.KOption, with("selected", ""), "", api.Ctl{Selected: true}}, {api.KOption, with("checked", ""), "x", api.Ctl{}}, {api.KFile, value("v"), "x", api.Ctl{}}, {api.KHidden, value("v"), "x", api.Ctl{}}, {api.KSelect, value("v"), "x", api.Ctl{}},
	} {
		c.want.Mixed, c.want.Custom = true, "wrong"
		checkState(t, "Reset", Reset(c.kind, full, c.attrs, c.text), c.want)
		c.want.Mixed, c.want.Custom = false, ""
		checkState(t, "Reset", Reset(c.kind, api.Ctl{}, c.attrs, c.text), c.want)
	}
	for _, state := range states() {
		eachKind(func(kind int, attrs []api.Attr) {
			for _, s := range texts[:4] {
				want := slowStart(kind, attrs, s)
				want.Mixed, want.Custom = state.Mixed, state.Custom
				checkState(t, "Reset", Reset(kind, state, attrs, s), want)
			}
		})
	}
}

// addresses are where the texts and the list of a state lie; empty ones lie nowhere.
func addresses(c api.Ctl) []uintptr {
	texts := []string{c.Value, c.Custom}
	for _, f := range c.Files {
		texts = append(texts, f.Name, f.Value, f.FileName, f.Type)
	}
	var out []uintptr
	for _, s := range texts {
		if s != "" {
			out = append(out, uintptr(unsafe.Pointer(unsafe.StringData(s))))
		}
	}
	if cap(c.Files) > 0 {
		out = append(out, uintptr(unsafe.Pointer(unsafe.SliceData(c.Files))))
	}
	return out
}

// answers are what all calls answer; texts stand in states, so that all can be looked at alike. They are kept together, so that no memory is used twice.
func answers(old, kind int, c api.Ctl, attrs []api.Attr, s string) []api.Ctl {
	out := []api.Ctl{Start(kind, attrs, s), {Value: Value(kind, c, attrs)}, Reset(kind, c, attrs, s)}
	for _, name := range []string{"value", "checked", "selected", "step", "x"} {
		out = append(out, Changed(kind, c, attrs, name))
	}
	for _, written := range []string{s, ""} {
		one, _, _ := Write(kind, c, attrs, written)
		two, _ := Type(kind, c, attrs, written)
		out = append(out, one, two)
	}
	last, text, _ := Retype(old, kind, c, attrs)
	return append(out, last, api.Ctl{Value: text})
}

// TestR4New: no answer shares memory with what was handed in, or with another answer.
func TestR4New(t *testing.T) {
	nameless := api.Ctl{Files: []api.Entry{{}}}
	for _, c := range append(states()[:7], nameless) {
		for _, attrs := range [][]api.Attr{nil, value("attr"), value("2020-02-29"), value("5"), value("#abcdef"), with("value", "a,b", "multiple", "")} {
			for _, kind := range allKinds {
				for _, old := range []int{api.KText, api.KHidden, api.KFile} {
					checkNew(t, old, kind, c, attrs)
				}
			}
		}
	}
}

func checkNew(t *testing.T, old, kind int, c api.Ctl, attrs []api.Attr) {
	t.Helper()
	s := "text"
	seen := map[uintptr]bool{uintptr(unsafe.Pointer(unsafe.StringData(s))): true}
	for _, a := range addresses(c) {
		seen[a] = true
	}
	for _, a := range attrs {
		seen[uintptr(unsafe.Pointer(unsafe.StringData(a.Value)))] = true
	}
	all := append(answers(old, kind, c, attrs, s), answers(old, kind, c, attrs, s)...)
	for i, answer := range all {
		for _, a := range addresses(answer) {
			if seen[a] {
				t.Fatalf("kinds %d and %d, %v: answer %d, %+v, shares memory", old, kind, attrs, i, answer)
			}
			seen[a] = true
		}
	}
}

// TestR4Kept: what was handed in stays as it is, and what lies behind a list's end isn't looked at.
func TestR4Kept(t *testing.T) {
	whole := with("name", "n", "min", "3", "value", "9", "checked", "", "selected", "", "multiple", "")
	files := []api.Entry{{FileName: "a"}, {FileName: "b"}, {FileName: "c"}}
	keptAttrs, keptFiles := slices.Clone(whole), slices.Clone(files)
	for _, kind := range allKinds {
		for _, cut := range []api.Ctl{{Value: "1", Files: files[:2]}, {Value: "1", Files: files[:0]}} {
			short := slices.Clip(slices.Clone(whole[:2]))
			want := answers(api.KText, kind, api.Ctl{Value: "1", Files: slices.Clip(slices.Clone(cut.Files))}, short, "s")
			got := answers(api.KText, kind, cut, whole[:2], "s")
			for i := range got {
				checkState(t, "an answer", got[i], want[i])
				for j := range got[i].Files {
					got[i].Files[j].FileName = "changed"
				}
				_ = append(got[i].Files, api.Entry{FileName: "changed"})
			}
		}
	}
	if !slices.Equal(whole, keptAttrs) || !slices.Equal(files, keptFiles) {
		t.Errorf("what was handed in was changed: %v, %v", whole, files)
	}
}
