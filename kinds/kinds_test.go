package kinds

import (
	"math"
	"reflect"
	"slices"
	"strings"
	"testing"
	"unsafe"

	"counterfoil/api"
)

// typeList is the chapter's first row, as it stands there: the first type is that of kind 1.
const typeList = "hidden, text, search, tel, url, email, password, date, month, week, time, datetime-local, number, range, color, checkbox, radio, file, submit, image, reset, button"

// named are the kinds of elements whose type tells nothing.
var named = map[string]int{
	"select": 23, "textarea": 24, "output": 28, "fieldset": 29, "form": 30, "label": 31, "option": 32, "optgroup": 33, "legend": 34, "datalist": 35,
}

// ofType is what the chapter's table tells of an element and its type: an empty one makes what none makes.
func ofType(name, kind string) int {
	small := smallLetters(kind)
	switch name {
	case "input":
		if i := slices.Index(strings.Split(typeList, ", "), small); i >= 0 {
			return i + 1
		}
		return 2
	case "button":
		switch small {
		case "reset":
			return 26
		case "button":
			return 27
		}
		return 25
	}
	return named[name]
}

// smallLetters changes letters of ASCII alone.
func smallLetters(s string) string {
	for letter := 'A'; letter <= 'Z'; letter++ {
		s = strings.ReplaceAll(s, string(letter), string(letter-'A'+'a'))
	}
	return s
}

// node is an element with the attribute type.
func node(name, kind string) api.Node {
	return api.Node{Name: name, Attrs: []api.Attr{{Name: "type", Value: kind}}, Parent: -1}
}

// near goes through all texts that are one byte away from s (changed, put in, taken out), and s itself.
func near(s string, f func(s string)) {
	f(s)
	for i := range len(s) + 1 {
		for sign := range 256 {
			put := string([]byte{byte(sign)})
			f(s[:i] + put + s[i:])
			if i < len(s) {
				f(s[:i] + put + s[i+1:])
			}
		}
		if i < len(s) {
			f(s[:i] + s[i+1:])
		}
	}
}

// capitals goes through all ways of putting s into small letters and capitals.
func capitals(s string, f func(s string)) {
	var grow func(done, left string)
	grow = func(done, left string) {
		if left == "" {
			f(done)
			return
		}
		grow(done+left[:1], left[1:])
		if up := strings.ToUpper(left[:1]); up != left[:1] {
			grow(done+up, left[1:])
		}
	}
	grow("", s)
}

// numbers goes through all kinds, and through numbers that are none: those around, those that wrap round to a kind in 8, 16 or 32 bits, and where 64 bits end.
func numbers(f func(kind int)) {
	for kind := -1000; kind <= 1000; kind++ {
		f(kind)
	}
	for kind := range 40 {
		for _, far := range []int{1 << 15, 1 << 16, 1 << 31, 1 << 32, 1 << 62, math.MaxInt - 50, math.MinInt, -1 << 32, -1 << 31, -1 << 16} {
			f(far + kind)
		}
	}
	f(math.MaxInt)
}

// span is the numbers from first to last.
func span(first, last int) []int {
	var list []int
	for n := first; n <= last; n++ {
		list = append(list, n)
	}
	return list
}

func TestP11_1Named(t *testing.T) {
	for _, c := range []struct {
		name, kind string
		want       int
	}{
		{"input", "RaDiO", api.KRadio}, {"input", "foo", api.KText}, {"input", "", api.KText}, {"input", "hidden", api.KHidden}, {"input", "text", api.KText}, {"input", "search", api.KSearch}, {"input", "tel", api.KTel},
		{"input", "url", api.KURL}, {"input", "URL", api.KURL}, {"input", "email", api.KEmail}, {"input", "password", api.KPassword}, {"input", "date", api.KDate}, {"input", "month", api.KMonth}, {"input", "week", api.KWeek},
		{"input", "time", api.KTime}, {"input", "datetime-local", api.KLocal}, {"input", "DateTime-Local", api.KLocal}, {"input", "number", api.KNumber}, {"input", "range", api.KRange}, {"input", "color", api.KColour},
		{"input", "checkbox", api.KCheckbox}, {"input", "radio", api.KRadio}, {"input", "file", api.KFile}, {"input", "submit", api.KSubmit}, {"input", "image", api.KImage}, {"input", "reset", api.KReset}, {"input", "button", api.KButton},
		{"input", "datetime", api.KText}, {"input", "local", api.KText}, {"input", "colour", api.KText}, {"input", " radio", api.KText}, {"input", "radio ", api.KText}, {"input", "radio\n", api.KText}, {"input", "radio\x00", api.KText}, {"input", "rad", api.KText},
		{"input", "textarea", api.KText}, {"input", "select-one", api.KText}, {"input", "select", api.KText}, {"input", "output", api.KText}, {"input", "fieldset", api.KText}, {"input", "hidden,text", api.KText}, {"input", "wee\u212a", api.KText}, {"input", "re\u017fet", api.KText}, {"input", "f\u0130le", api.KText}, {"input", "\xff", api.KText}, {"input", strings.Repeat("radio", 1000), api.KText},
		{"button", "", api.KSubmits}, {"button", "submit", api.KSubmits}, {"button", "reset", api.KResets}, {"button", "RESET", api.KResets}, {"button", "button", api.KPlain}, {"button", "bUTTON", api.KPlain}, {"button", "foo", api.KSubmits}, {"button", "image", api.KSubmits}, {"button", "hidden", api.KSubmits}, {"button", "reset ", api.KSubmits}, {"button", "re\u017fet", api.KSubmits}, {"button", "output", api.KSubmits}, {"button", "menu", api.KSubmits},
		{"select", "", api.KSelect}, {"textarea", "", api.KArea}, {"output", "", api.KOutput}, {"fieldset", "", api.KFieldset}, {"form", "", api.KForm}, {"label", "", api.KLabel}, {"option", "", api.KOption}, {"optgroup", "", api.KGroup}, {"legend", "", api.KLegend}, {"datalist", "", api.KList},
		{"", "", api.KNone}, {"", "radio", api.KNone}, {"div", "radio", api.KNone}, {"radio", "", api.KNone}, {"text", "text", api.KNone}, {"select-one", "", api.KNone}, {"submit", "submit", api.KNone}, {"object", "", api.KNone}, {"inputs", "radio", api.KNone}, {"inpu", "radio", api.KNone}, {"Input", "radio", api.KNone}, {"BUTTON", "reset", api.KNone}, {"Form", "", api.KNone}, {"input ", "radio", api.KNone}, {"\xff", "", api.KNone}, {strings.Repeat("form", 1000), "", api.KNone},
	} {
		if got := Of(node(c.name, c.kind)); got != c.want {
			t.Errorf("Of %.20q with type %.20q is %d, not %d", c.name, c.kind, got, c.want)
		}
	}
}

func TestP11_1OfAll(t *testing.T) {
	names := []string{"", "div", "Input", "input", "button"}
	for name := range named {
		names = append(names, name)
	}
	against := func(name, kind string) {
		if got, want := Of(node(name, kind)), ofType(name, kind); got != want {
			t.Errorf("Of %q with type %q is %d, not %d", name, kind, got, want)
		}
	}
	for _, name := range names {
		if got, want := Of(api.Node{Name: name, Parent: -1}), ofType(name, ""); got != want {
			t.Errorf("Of %q is %d, not %d", name, got, want)
		}
		near(name, func(name string) {
			against(name, "")
			against(name, "radio")
			against(name, "reset")
		})
		for _, kind := range append(strings.Split(typeList, ", "), names...) {
			near(kind, func(kind string) { against(name, kind) })
		}
	}
}

// TestP11_1Attrs: the first attribute whose name is just type tells it, wherever that stands, and nothing else of the node does.
func TestP11_1Attrs(t *testing.T) {
	radio, file, reset, other := api.Attr{Name: "type", Value: "radio"}, api.Attr{Name: "type", Value: "file"}, api.Attr{Name: "type", Value: "reset"}, api.Attr{Name: "type", Value: "other"}
	name, value := api.Attr{Name: "name", Value: "type"}, api.Attr{Name: "value", Value: "file"}
	for _, c := range []struct {
		attrs         []api.Attr
		input, button int
	}{
		{nil, api.KText, api.KSubmits}, {[]api.Attr{}, api.KText, api.KSubmits}, {[]api.Attr{{}}, api.KText, api.KSubmits}, {[]api.Attr{{Value: "radio"}}, api.KText, api.KSubmits},
		{[]api.Attr{name, value}, api.KText, api.KSubmits}, {[]api.Attr{name, value, radio}, api.KRadio, api.KSubmits}, {[]api.Attr{radio, name, value}, api.KRadio, api.KSubmits}, {[]api.Attr{name, reset, value}, api.KReset, api.KResets},
		{[]api.Attr{radio, file}, api.KRadio, api.KSubmits}, {[]api.Attr{file, radio, reset}, api.KFile, api.KSubmits}, {[]api.Attr{other, reset}, api.KText, api.KSubmits}, {[]api.Attr{reset, other}, api.KReset, api.KResets}, {[]api.Attr{{Name: "type"}, reset}, api.KText, api.KSubmits},
		{[]api.Attr{{Name: "TYPE", Value: "radio"}}, api.KText, api.KSubmits}, {[]api.Attr{{Name: "Type", Value: "radio"}, reset}, api.KReset, api.KResets}, {[]api.Attr{{Name: "type ", Value: "radio"}, {Name: "typ", Value: "radio"}, {Name: "types", Value: "radio"}}, api.KText, api.KSubmits},
		{append(slices.Repeat([]api.Attr{name}, 1000), reset), api.KReset, api.KResets},
	} {
		for _, rest := range []api.Node{{Parent: -1}, {Parent: math.MinInt, Text: "hidden", Kids: []int{0, -1, math.MaxInt}}, {Text: strings.Repeat("a", api.MaxText+1)}} {
			rest.Attrs = c.attrs
			want := map[string]int{"input": c.input, "button": c.button, "select": api.KSelect, "form": api.KForm, "": api.KNone, "type": api.KNone}
			for rest.Name = range want {
				if got := Of(rest); got != want[rest.Name] {
					t.Errorf("Of %q with %.100q is %d, not %d", rest.Name, c.attrs, got, want[rest.Name])
				}
			}
		}
	}
}

func TestP11_1Type(t *testing.T) {
	want := map[int]string{23: "select-one", 24: "textarea", 25: "submit", 26: "reset", 27: "button", 28: "output", 29: "fieldset"}
	for i, kind := range strings.Split(typeList, ", ") {
		want[i+1] = kind
	}
	numbers(func(kind int) {
		if got := Type(kind); got != want[kind] {
			t.Errorf("Type(%d) is %q, not %q", kind, got, want[kind])
		}
	})
}

func TestP11_2Mode(t *testing.T) {
	want := map[int]int{1: 2, 16: 3, 17: 3, 18: 4, 19: 2, 20: 2, 21: 2, 22: 2, 24: 1, 28: 1}
	for _, kind := range span(2, 15) {
		want[kind] = 1
	}
	numbers(func(kind int) {
		if got := Mode(kind); got != want[kind] {
			t.Errorf("Mode(%d) is %d, not %d", kind, got, want[kind])
		}
	})
}

func TestP11_2Questions(t *testing.T) {
	for _, c := range []struct {
		name  string
		ask   func(kind int) bool
		holds []int
	}{
		{"Listed", Listed, slices.Concat(span(1, 19), span(21, 29))},
		{"Submits", Submits, span(1, 27)},
		{"Resets", Resets, slices.Concat(span(1, 24), span(28, 28))},
		{"Labels", Labels, span(2, 28)},
		{"Fires", Fires, []int{19, 20, 25}},
		{"Blocks", Blocks, span(2, 13)},
		{"Pairs", Pairs, []int{19, 25}},
	} {
		numbers(func(kind int) {
			if got := c.ask(kind); got != slices.Contains(c.holds, kind) {
				t.Errorf("%s(%d) is %v", c.name, kind, got)
			}
		})
	}
}

func TestP11_2Applies(t *testing.T) {
	holds := map[string][]int{
		"required":  slices.Concat(span(2, 13), []int{16, 17, 18, 23, 24}),
		"readonly":  slices.Concat(span(2, 13), []int{24}),
		"minlength": slices.Concat(span(2, 7), []int{24}),
		"maxlength": slices.Concat(span(2, 7), []int{24}),
		"pattern":   span(2, 7),
		"min":       span(8, 14),
		"max":       span(8, 14),
		"step":      span(8, 14),
		"multiple":  {6, 18, 23},
		"checked":   {16, 17},
	}
	for attr, kinds := range holds {
		numbers(func(kind int) {
			if got := Applies(kind, attr); got != slices.Contains(kinds, kind) {
				t.Errorf("Applies(%d, %q) is %v", kind, attr, got)
			}
		})
	}
	others := []string{"", "type", "name", "value", "id", "form", "for", "disabled", "selected", "size", "list", "accept", "placeholder", "autocomplete", "alt", "src", "rows", "cols", "wrap", "Required", "REQUIRED", "MIN", "readOnly", "minLength", "min length", " min", "min ", "min,max", "steps", "indeterminate", "\xff", strings.Repeat("min", 1000)}
	for attr := range holds {
		near(attr, func(attr string) { others = append(others, attr) })
	}
	for _, attr := range others {
		for kind := -2; kind <= 40; kind++ {
			if got := Applies(kind, attr); got != slices.Contains(holds[attr], kind) {
				t.Errorf("Applies(%d, %.20q) is %v", kind, attr, got)
			}
		}
	}
}

func TestP11_3(t *testing.T) {
	found := map[int]string{}
	for _, kind := range strings.Split(typeList, ", ") {
		of := Of(node("input", kind))
		if of < 1 || of > 22 || found[of] != "" || Type(of) != kind {
			t.Errorf("type %q makes an input of kind %d, as %q does, whose Type is %q", kind, of, found[of], Type(of))
		}
		found[of] = kind
		capitals(kind, func(s string) {
			if got := Of(node("input", s)); got != of {
				t.Errorf("type %q makes an input of kind %d, not %d", s, got, of)
			}
		})
	}
	if len(found) != 22 {
		t.Errorf("there are %d kinds of input", len(found))
	}
	for kind := 1; kind <= 22; kind++ {
		if got := Of(node("input", Type(kind))); got != kind {
			t.Errorf("Type(%d) makes an input of kind %d", kind, got)
		}
	}
	for kind := 25; kind <= 27; kind++ {
		if got := Of(node("button", Type(kind))); got != kind {
			t.Errorf("Type(%d) makes a button of kind %d", kind, got)
		}
	}
}

// TestR4: a node stays as it is, spare room included, and a text that is answered is of its own.
func TestR4(t *testing.T) {
	attrs := []api.Attr{{Name: "Name", Value: "A"}, {Name: "type", Value: "RaDiO"}, {Name: "type", Value: "B"}, {Name: "spare", Value: "C"}}
	kids := []int{4, 5, 6}
	given := api.Node{Name: "input", Text: "T", Attrs: attrs[:2], Parent: 3, Kids: kids[:1]}
	wholeAttrs, wholeKids := slices.Clone(attrs), slices.Clone(kids)
	for range 2 {
		if got := Of(given); got != api.KRadio {
			t.Errorf("Of is %d", got)
		}
	}
	if !reflect.DeepEqual(attrs, wholeAttrs) || !slices.Equal(kids, wholeKids) {
		t.Errorf("the node was changed: %v, %v", attrs, kids)
	}
	for kind := 1; kind <= 29; kind++ {
		if one, two := Type(kind), Type(kind); one != two || unsafe.StringData(one) == unsafe.StringData(two) {
			t.Errorf("Type(%d) is %q, then %q, or one text twice", kind, one, two)
		}
	}
}
