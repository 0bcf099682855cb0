package submit

import (
	"fmt"
	"math"
	"math/rand"
	"reflect"
	"slices"
	"strconv"
	"strings"
	"testing"
	"unsafe"

	"counterfoil/api"
	"counterfoil/kinds"
	"counterfoil/owner"
	"counterfoil/parts"
	"counterfoil/plain"
	"counterfoil/tree"
	"counterfoil/urlenc"
	"counterfoil/valid"
)

// noNodes are numbers that no document's nodes have, such among them as would be one if they were cut.
var noNodes = []int{-1, -2, -400, api.MaxNodes, api.MaxNodes + 1, 1 << 16, 1 << 31, -1 << 31, 1 << 32, 1<<32 + 1, -1<<32 + 1, math.MaxInt, math.MinInt, math.MinInt + 1}

// inputTypes are all that an input may have, in the order of their kinds.
var inputTypes = []string{"hidden", "text", "search", "tel", "url", "email", "password", "date", "month", "week", "time", "datetime-local", "number", "range", "color", "checkbox", "radio", "file", "submit", "image", "reset", "button"}

// otherNames are those of elements that are neither submitted nor forms.
var otherNames = []string{"output", "fieldset", "label", "option", "optgroup", "legend", "datalist", "div", "object", "inputs", "forms"}

// part is a node with what is within it and its state; a text, if its name is empty.
type part struct {
	name, text string
	attrs      []api.Attr
	state      api.Ctl
	kids       []part
}

// el is an element with attributes told as "name=value", or "name" alone, with blanks between.
func el(name, attrs string, kids ...part) part {
	p := part{name: name, kids: kids}
	for _, a := range strings.Fields(attrs) {
		n, v, _ := strings.Cut(a, "=")
		p.attrs = append(p.attrs, api.Attr{Name: n, Value: v})
	}
	return p
}

func input(attrs string, kids ...part) part { return el("input", attrs, kids...) }

func button(attrs string, kids ...part) part { return el("button", attrs, kids...) }

func form(attrs string, kids ...part) part { return el("form", attrs, kids...) }

func txt(s string) part { return part{text: s} }

// with is p with one more attribute, whose value may hold anything.
func (p part) with(name, value string) part {
	p.attrs = append(slices.Clone(p.attrs), api.Attr{Name: name, Value: value})
	return p
}

func (p part) holding(value string) part {
	p.state.Value = value
	return p
}

// put numbers the parts in order, from the last node of d on.
func put(d api.Doc, p part, parent int) api.Doc {
	id := len(d.Nodes)
	d.Nodes = append(d.Nodes, api.Node{Name: p.name, Text: p.text, Attrs: p.attrs, Parent: parent})
	d.Ctls = append(d.Ctls, p.state)
	for _, kid := range p.kids {
		d.Nodes[id].Kids = append(d.Nodes[id].Kids, len(d.Nodes))
		d = put(d, kid, id)
	}
	return d
}

// doc is a document of trees that stand apart; node 0 is the first one's top.
func doc(trees ...part) api.Doc {
	var d api.Doc
	for _, p := range trees {
		d = put(d, p, -1)
	}
	return d
}

// everyControl is one of each kind that is submitted, in the kinds' order, each with those attributes.
func everyControl(attrs string) []part {
	var out []part
	for _, t := range inputTypes {
		out = append(out, input("type="+t+" "+attrs))
	}
	out = append(out, el("select", attrs), el("textarea", attrs))
	return append(out, button(attrs), button("type=reset "+attrs), button("type=button "+attrs))
}

// firing are the kinds that submit a form.
var firing = []int{api.KSubmit, api.KImage, api.KSubmits}

// two is some entries.
func two() []api.Entry {
	return []api.Entry{{Name: "a b", Value: "x\ny"}, {Name: "f", File: true, FileName: "n", Type: "text/plain", Value: "content"}}
}

// asked is Method, Kind and Asks told as one text.
func asked(l []api.Node, form, submitter int) string {
	return Method(l, form, submitter) + " " + strconv.Itoa(Kind(l, form, submitter)) + " " + strconv.FormatBool(Asks(l, form, submitter))
}

func checkAsked(t *testing.T, why string, d api.Doc, form, submitter int, want string) {
	t.Helper()
	if got := asked(d.Nodes, form, submitter); got != want {
		t.Errorf("%s: of %d by %d is asked %s, not %s", why, form, submitter, got, want)
	}
}

// checkPlan holds a plan that there is.
func checkPlan(t *testing.T, why string, d api.Doc, form, submitter int, want api.Plan) {
	t.Helper()
	if got, e := Make(d, form, submitter, two(), []string{"q"}); e != api.OK || got != want {
		t.Errorf("%s: the plan of %d by %d is %+v, %d, not %+v", why, form, submitter, got, e, want)
	}
}

func checkEnter(t *testing.T, why string, d api.Doc, id, want, wantKind int) {
	t.Helper()
	if got, kind := Enter(d.Nodes, id); got != want || kind != wantKind {
		t.Errorf("%s: Enter of %d is %d, %d, not %d, %d", why, id, got, kind, want, wantKind)
	}
}

func TestP24_1Method(t *testing.T) {
	values := map[string]string{
		"post": "post", "POST": "post", "PosT": "post", "dialog": "dialog", "DIALOG": "dialog", "diaLog": "dialog", "get": "get", "GET": "get",
		"": "get", " post": "get", "post ": "get", "pos": "get", "posts": "get", "p": "get", "dialo": "get", "dialogs": "get", "post dialog": "get", "put": "get", "delete": "get",
		"post\x00": "get", "po\u017ft": "get", "p\xf6st": "get", "\u212Aost": "get", "dıalog": "get", "d\u0130alog": "get", "multipart/form-data": "get", "pOsT\n": "get", "ð\u009f": "get", "0OST": "get", "\x10ost": "get",
		strings.Repeat("post", 1000): "get",
	}
	for value, want := range values {
		d := doc(el("html", "", form("").with("method", value), button("").with("formmethod", value), form("method=post"), form("method=dialog"), form("")))
		checkAsked(t, "method "+value, d, 1, -1, want+" 1 true")
		for _, id := range []int{3, 4, 5} {
			checkAsked(t, "formmethod "+value, d, id, 2, want+" 1 true")
		}
	}
}

func TestP24_1Kind(t *testing.T) {
	values := map[string]int{
		"multipart/form-data": 2, "MULTIPART/FORM-DATA": 2, "Multipart/Form-Data": 2, "text/plain": 3, "TEXT/PLAIN": 3, "Text/plaiN": 3, "application/x-www-form-urlencoded": 1,
		"": 1, " text/plain": 1, "text/plain ": 1, "text/plain; charset=utf-8": 1, "text": 1, "plain": 1, "text/plai": 1, "text/plains": 1, "textplain": 1, "text\\plain": 1, "text/html": 1,
		"multipart/form-dat": 1, "multipart/form-datas": 1, "multipart/formdata": 1, "multipart/form_data": 1, "multipart": 1, "multipart/form-data;boundary=x": 1, "multipart/form\rdata": 1, "2": 1, "3": 1, "post": 1,
		"multıpart/form-data": 1, "mult\u0130part/form-data": 1, "text\x0fplain": 1,
	}
	for value, want := range values {
		d := doc(el("html", "", form("").with("enctype", value), button("").with("formenctype", value), form("enctype=text/plain"), form("enctype=multipart/form-data"), form("")))
		checkAsked(t, "enctype "+value, d, 1, -1, "get "+strconv.Itoa(want)+" true")
		for _, id := range []int{3, 4, 5} {
			checkAsked(t, "formenctype "+value, d, id, 2, "get "+strconv.Itoa(want)+" true")
		}
	}
}

// TestP24_1Settings holds which node's attribute it is that tells, and of which name: those of the other node's names tell nothing, and one that is there tells even if it is empty, or told wrong.
func TestP24_1Settings(t *testing.T) {
	for _, c := range []struct{ form, button, want string }{
		{"", "", "get 1 true"},
		{"method=post enctype=text/plain", "", "post 3 true"},
		{"", "formmethod=post formenctype=text/plain", "post 3 true"},
		{"method=post enctype=text/plain", "formmethod=dialog formenctype=multipart/form-data", "dialog 2 true"},
		{"method=post enctype=text/plain", "formmethod=get formenctype=application/x-www-form-urlencoded", "get 1 true"},
		{"method=post enctype=text/plain", "formmethod formenctype=", "get 1 true"},
		{"method=post enctype=text/plain", "formmethod=x formenctype=x", "get 1 true"},
		{"method=post enctype=text/plain", "formmethod=dialog", "dialog 3 true"},
		{"method=post enctype=text/plain", "formenctype=multipart/form-data", "post 2 true"},
		{"method=x enctype=x", "formmethod=post formenctype=text/plain", "post 3 true"},
		{"formmethod=post formenctype=text/plain formnovalidate", "", "get 1 true"},
		{"", "method=post enctype=text/plain novalidate", "get 1 true"},
		{"method=text/plain enctype=post", "", "get 1 true"},
		{"", "formmethod=text/plain formenctype=post", "get 1 true"},
		{"action=post target=text/plain", "formaction=post formtarget=text/plain", "get 1 true"},
		{"id=method name=post", "value=post", "get 1 true"},
		{"novalidate", "", "get 1 false"},
		{"novalidate=false", "", "get 1 false"},
		{"", "formnovalidate", "get 1 false"},
		{"", "formnovalidate=false", "get 1 false"},
		{"novalidate", "formnovalidate", "get 1 false"},
		{"novalidat novalidates no-validate", "formnovalidat validate", "get 1 true"},
	} {
		d := doc(el("html", "", form(c.form, button(c.button))))
		checkAsked(t, c.form+" / "+c.button, d, 1, 2, c.want)
		d.Nodes[1].Attrs, d.Nodes[2].Attrs = roomy(d.Nodes[1].Attrs, el("", "method=dialog enctype=text/plain novalidate").attrs...), roomy(d.Nodes[2].Attrs, el("", "formmethod=dialog formnovalidate").attrs...)
		checkAsked(t, c.form+" / "+c.button+", with spare room", d, 1, 2, c.want)
	}
}

// TestP24_1Submitter has each node in turn as the submitter, such among them as aren't there.
func TestP24_1Submitter(t *testing.T) {
	own := "formmethod=dialog formenctype=text/plain formnovalidate"
	parts := everyControl(own)
	for _, name := range append(slices.Clone(otherNames), "form") {
		parts = append(parts, el(name, "type=submit "+own))
	}
	d := doc(el("html", own, form("method=post enctype=multipart/form-data "+own, append(parts, txt("button"))...)))
	for id := range d.Nodes {
		want := "post 2 true"
		if slices.Contains(firing, id-1) && id > 1 { // the controls' kinds are their places
			want = "dialog 3 false"
		}
		checkAsked(t, "a submitter "+d.Nodes[id].Name, d, 1, id, want)
	}
	for _, id := range append(noNodes, len(d.Nodes)) {
		checkAsked(t, "a submitter that isn't there", d, 1, id, "post 2 true")
	}
	for _, name := range []string{"input", "button"} {
		for _, typ := range []string{"SUBMIT", "Submit", "submi", "", "IMAGE", "reset", "button", "RESET"} {
			d := doc(form("method=post enctype=multipart/form-data", el(name, own).with("type", typ)))
			want := "post 2 true"
			if typ == "SUBMIT" || typ == "Submit" || name == "input" && typ == "IMAGE" || name == "button" && (typ == "" || typ == "submi" || typ == "IMAGE") {
				want = "dialog 3 false"
			}
			checkAsked(t, name+" "+typ, d, 0, 1, want)
		}
	}
	far := doc(el("html", "", form("method=post", button("form=x "+own)), form("method=post"), button(own), button("disabled "+own)), button(own))
	for _, submitter := range []int{2, 4, 5, 6} {
		checkAsked(t, "a submitter of another form, or none", far, 3, submitter, "dialog 3 false")
	}
}

// TestP24_1NoForm asks of nodes that are there, but no forms: what they tell is taken as a form's.
func TestP24_1NoForm(t *testing.T) {
	for _, name := range append(slices.Clone(otherNames), "input", "button", "select") {
		d := doc(el("html", "", el(name, "method=post enctype=text/plain novalidate"), button("formmethod=dialog")))
		checkAsked(t, name, d, 1, -1, "post 3 false")
		checkAsked(t, name, d, 1, 2, "dialog 3 false")
	}
	d := doc(el("html", "", txt("method"), button("formmethod=dialog formnovalidate")))
	checkAsked(t, "a text", d, 1, -1, "get 1 true")
	checkAsked(t, "a text", d, 1, 2, "dialog 1 false")
}

// mixed is html (0) with a form f (1), within which are a text field (2), a button (3) and a fieldset (4) with a field for a number (5); a form g (6) with an address (7); a text field that tells g (8); apart from all a form (9) with a text field (10).
func mixed() api.Doc {
	return doc(
		el("html", "",
			form("id=f method=post action=/f target=t enctype=text/plain",
				input("").holding("1"),
				button("value=v formaction=/b formmethod=dialog"),
				el("fieldset", "", input("type=number"))),
			form("id=g novalidate", input("type=url")),
			input("form=g")),
		form("", input("")))
}

func TestP24_1Mixed(t *testing.T) {
	d := mixed()
	checkAsked(t, "f", d, 1, -1, "post 3 true")
	checkAsked(t, "f by its button", d, 1, 3, "dialog 3 true")
	checkAsked(t, "f by a field", d, 1, 2, "post 3 true")
	checkAsked(t, "g", d, 6, -1, "get 1 false")
	checkAsked(t, "g by the button of f", d, 6, 3, "dialog 1 false")
	checkAsked(t, "the form apart", d, 9, -1, "get 1 true")
	for _, id := range append(noNodes, len(d.Nodes)) {
		for _, submitter := range []int{-1, 3, id} {
			checkAsked(t, "a form that isn't there", d, id, submitter, " 0 false")
		}
	}
}

// wrongNodes are documents that aren't right, but otherwise as mixed is.
func wrongNodes() []api.Doc {
	var out []api.Doc
	add := func(change func(d *api.Doc)) {
		d := mixed()
		change(&d)
		out = append(out, d)
	}
	at := func(id int, change func(n *api.Node)) {
		add(func(d *api.Doc) { change(&d.Nodes[id]) })
	}
	add(func(d *api.Doc) { *d = api.Doc{} })
	add(func(d *api.Doc) { d.Nodes = nil })
	add(func(d *api.Doc) { d.Nodes, d.Ctls = d.Nodes[:10], d.Ctls[:10] })
	add(func(d *api.Doc) { d.Nodes, d.Ctls = d.Nodes[1:], d.Ctls[1:] })
	at(0, func(n *api.Node) { n.Name = "" })
	at(0, func(n *api.Node) { n.Text = "x" })
	at(0, func(n *api.Node) { n.Parent = 1 })
	at(0, func(n *api.Node) { n.Parent = 0 })
	at(0, func(n *api.Node) { n.Kids = n.Kids[:1] })
	at(1, func(n *api.Node) { n.Kids[0] = 99 })
	at(1, func(n *api.Node) { n.Kids[0] = -1 })
	at(1, func(n *api.Node) { n.Kids[0] = n.Kids[1] })
	at(2, func(n *api.Node) { n.Parent = 77 })
	at(2, func(n *api.Node) { n.Parent = -7 })
	at(2, func(n *api.Node) { n.Parent = 2 })
	at(2, func(n *api.Node) { n.Name = "INPUT" })
	at(3, func(n *api.Node) { n.Attrs = append(n.Attrs, api.Attr{Name: "Value"}) })
	at(3, func(n *api.Node) { n.Attrs = append(n.Attrs, api.Attr{Name: "value", Value: "x"}) })
	at(3, func(n *api.Node) { n.Attrs[0].Value = strings.Repeat("x", api.MaxText+1) })
	at(10, func(n *api.Node) { n.Text = "x" })
	add(func(d *api.Doc) { // two that stand within each other
		d.Nodes[4].Parent, d.Nodes[5].Kids = 5, []int{4}
		d.Nodes[1].Kids = []int{2, 3}
	})
	add(func(d *api.Doc) {
		for len(d.Nodes) <= api.MaxNodes {
			d.Nodes, d.Ctls = append(d.Nodes, api.Node{Name: "input", Parent: -1}), append(d.Ctls, api.Ctl{})
		}
	})
	return out
}

// wrongStates are documents whose nodes are right, but whose states aren't as many.
func wrongStates() []api.Doc {
	var out []api.Doc
	for _, ctls := range [][]api.Ctl{nil, {}, mixed().Ctls[:10], make([]api.Ctl, 12), make([]api.Ctl, 1)} {
		out = append(out, api.Doc{Nodes: mixed().Nodes, Ctls: ctls})
	}
	return out
}

// TestP24Wrong holds too that a wrong document's error comes first: node 2, say, is no form; and that a boundary isn't looked for.
func TestP24Wrong(t *testing.T) {
	for i, d := range slices.Concat(wrongNodes(), wrongStates()) {
		isRight := tree.Right(d.Nodes)
		if isRight != (i >= len(wrongNodes())) {
			t.Fatalf("document %d: its nodes are right: %t", i, isRight)
		}
		for _, id := range append(noNodes, 0, 1, 2, 3, 5, 6, 7, 8, 9, 10, 11) {
			for _, submitter := range []int{-1, 3, id} {
				if got, e := Make(d, id, submitter, nil, nil); e != api.ErrNode || got != (api.Plan{}) {
					t.Errorf("wrong document %d: Make of %d by %d is %+v, %d", i, id, submitter, got, e)
				}
				if !isRight {
					checkAsked(t, "wrong document "+strconv.Itoa(i), d, id, submitter, " 0 false")
				}
			}
			if !isRight {
				checkEnter(t, "wrong document "+strconv.Itoa(i), d, id, -1, 0)
			}
		}
	}
}

// slowQuery goes through action byte by byte.
func slowQuery(action, query string) string {
	path, behind := "", ""
	inPath, inBehind := true, false
	for i := range len(action) {
		c := action[i : i+1]
		if c == "#" {
			inBehind = true
		}
		if c == "?" {
			inPath = false
		}
		if inBehind {
			behind += c
		} else if inPath {
			path += c
		}
	}
	return path + "?" + query + behind
}

func TestP24_2(t *testing.T) {
	for _, c := range [][3]string{
		{"", "", "?"}, {"", "a=1", "?a=1"}, {"a", "", "a?"}, {"/a", "b=c", "/a?b=c"},
		{"/a?b", "c", "/a?c"}, {"/a?", "c", "/a?c"}, {"?", "c", "?c"}, {"?b", "", "?"}, {"a?b?c?d", "e", "a?e"}, {"??", "", "?"},
		{"/a#b", "c", "/a?c#b"}, {"/a#", "c", "/a?c#"}, {"#", "", "?#"}, {"##", "c", "?c##"}, {"a#b#c", "d", "a?d#b#c"},
		{"/a?b#c", "d=1", "/a?d=1#c"}, {"/a#c?b", "d=1", "/a?d=1#c?b"}, {"a#?", "", "a?#?"}, {"a?b#c?d#e", "f", "a?f#c?d#e"}, {"?#", "x", "?x#"}, {"#?", "x", "?x#?"},
		{"a", "b?c#d", "a?b?c#d"}, {"a#z", "b?c#d", "a?b?c#d#z"}, {"a?z", "#", "a?#"}, {"a", "?", "a??"},
		{"https://a:1/b%3Fc%23?x", "d", "https://a:1/b%3Fc%23?d"}, {"a&b=c", "d", "a&b=c?d"}, {" a ? b # c ", "d", " a ?d# c "}, {"\xff?\x00#\xfe", "\xfd", "\xff?\xfd#\xfe"}, {"é?é#é", "é", "é?é#é"}, {"a\n?b\n#\r", "\t", "a\n?\t#\r"},
	} {
		if got := Query(c[0], c[1]); got != c[2] {
			t.Errorf("Query(%q, %q) is %q, not %q", c[0], c[1], got, c[2])
		}
	}
	for b := range 256 {
		s := string([]byte{byte(b)})
		want := map[string]string{"?": "a?c", "#": "a?c#b"}[s]
		if want == "" {
			want = "a" + s + "b?c"
		}
		if got := Query("a"+s+"b", "c"); got != want {
			t.Errorf("Query of a, byte %d, b is %q", b, got)
		}
		if got := Query("a", s); got != "a?"+s {
			t.Errorf("Query by byte %d is %q", b, got)
		}
	}
}

// each hands out all texts of up to n pieces, each of one byte.
func each(pieces string, n int, f func(s string)) {
	f("")
	if n == 0 {
		return
	}
	for i := range len(pieces) {
		each(pieces, n-1, func(s string) { f(pieces[i:i+1] + s) })
	}
}

func TestP24_2All(t *testing.T) {
	seen := map[string]bool{}
	each("a?#=", 6, func(s string) {
		seen[s] = true
		for _, query := range []string{"", "q", "?", "#", "a=b&c"} {
			if got, want := Query(s, query), slowQuery(s, query); got != want {
				t.Fatalf("Query(%q, %q) is %q, not %q", s, query, got, want)
			}
		}
	})
	if len(seen) != 1+4+16+64+256+1024+4096 {
		t.Errorf("%d texts were asked", len(seen))
	}
	long := strings.Repeat("a", 1<<20)
	if got := Query(long+"?"+long+"#"+long, long); got != long+"?"+long+"#"+long {
		t.Error("a great text")
	}
	if got, many := Query(strings.Repeat("?", 1<<20)+strings.Repeat("#", 1<<20), ""), strings.Repeat("#", 1<<20); got != "?"+many {
		t.Error("many signs")
	}
}

const (
	escapes    = "a+b=x%0D%0Ay&f=n"
	lines      = "a b=x\r\ny\r\nf=n\r\n"
	partsByQ   = "--q\r\nContent-Disposition: form-data; name=\"a b\"\r\n\r\nx\r\ny\r\n--q\r\nContent-Disposition: form-data; name=\"f\"; filename=\"n\"\r\nContent-Type: text/plain\r\n\r\ncontent\r\n--q--\r\n"
	escapeType = "application/x-www-form-urlencoded"
	partsType  = "multipart/form-data; boundary=q"
)

func TestP24_3Mixed(t *testing.T) {
	d := mixed()
	checkPlan(t, "f", d, 1, -1, api.Plan{Method: "post", Action: "/f", Target: "t", Body: lines, Type: "text/plain"})
	checkPlan(t, "f by a field", d, 1, 2, api.Plan{Method: "post", Action: "/f", Target: "t", Body: lines, Type: "text/plain"})
	checkPlan(t, "f by its button", d, 1, 3, api.Plan{Method: "dialog", Target: "t", Body: "v"})
	checkPlan(t, "g", d, 6, -1, api.Plan{Method: "get", Action: "?" + escapes})
	checkPlan(t, "g by the button of f", d, 6, 3, api.Plan{Method: "dialog", Body: "v"})
	checkPlan(t, "the form apart", d, 9, -1, api.Plan{Method: "get", Action: "?" + escapes})
}

// TestP24_3Errors asks of each node of mixed, and of what is none.
func TestP24_3Errors(t *testing.T) {
	d := mixed()
	for id := range d.Nodes {
		isForm := id == 1 || id == 6 || id == 9
		for _, submitter := range []int{-1, 3} {
			got, e := Make(d, id, submitter, nil, nil)
			if isForm != (e == api.OK) || !isForm && (e != api.ErrKind || got != api.Plan{}) {
				t.Errorf("Make of %d is %+v, %d", id, got, e)
			}
		}
	}
	for _, id := range append(noNodes, len(d.Nodes)) {
		if got, e := Make(d, id, 3, nil, nil); e != api.ErrNode || got != (api.Plan{}) {
			t.Errorf("Make of %d is %+v, %d", id, got, e)
		}
	}
	attrs := "method=post enctype=multipart/form-data formmethod=post formenctype=multipart/form-data"
	others := append(everyControl(attrs), txt("form"), txt(""))
	for _, name := range otherNames {
		others = append(others, el(name, attrs))
	}
	for _, p := range others {
		if got, e := Make(doc(el("html", "", p)), 1, 1, nil, nil); e != api.ErrKind || got != (api.Plan{}) {
			t.Errorf("Make of %+v, without a boundary too, is %+v, %d", p, got, e)
		}
	}
}

func TestP24_3Settings(t *testing.T) {
	get := func(action, target string) api.Plan {
		return api.Plan{Method: "get", Action: action, Target: target}
	}
	post := func(action, target, body, kind string) api.Plan {
		return api.Plan{Method: "post", Action: action, Target: target, Body: body, Type: kind}
	}
	for _, c := range []struct {
		form, button string
		want         api.Plan
	}{
		{"", "", get("?"+escapes, "")},
		{"action=/a?b#c target=t", "", get("/a?"+escapes+"#c", "t")},
		{"action=/a?b#c target=t", "formaction=/d?e#f formtarget=u", get("/d?"+escapes+"#f", "u")},
		{"action=/a?b#c target=t", "formaction= formtarget=", get("?"+escapes, "")},
		{"action=/a?b#c target=t", "formaction", get("?"+escapes, "t")},
		{"action=/a?b#c target=t", "formtarget", get("/a?"+escapes+"#c", "")},
		{"formaction=/a formtarget=t", "action=/b target=u", get("?"+escapes, "")},
		{"action=/a enctype=multipart/form-data", "", get("/a?"+escapes, "")},
		{"action=/a enctype=text/plain", "", get("/a?"+escapes, "")},
		{"action=/a method=put", "", get("/a?"+escapes, "")},
		{"method=post", "", post("", "", escapes, escapeType)},
		{"method=post action=/a?b#c target=t", "", post("/a?b#c", "t", escapes, escapeType)},
		{"method=post action=/a?b#c target=t", "formaction=/d?e#f formtarget=u", post("/d?e#f", "u", escapes, escapeType)},
		{"method=post action=/a target=t", "formaction formtarget", post("", "", escapes, escapeType)},
		{"method=post action=/a enctype=text/plain", "", post("/a", "", lines, "text/plain")},
		{"method=post action=/a enctype=multipart/form-data", "", post("/a", "", partsByQ, partsType)},
		{"method=post enctype=text/plain", "formenctype=multipart/form-data", post("", "", partsByQ, partsType)},
		{"method=post enctype=multipart/form-data", "formenctype", post("", "", escapes, escapeType)},
		{"enctype=multipart/form-data", "formmethod=POST", post("", "", partsByQ, partsType)},
		{"method=post action=/a enctype=text/plain", "formmethod=get", get("/a?"+escapes, "")},
		{"method=dialog action=/a target=t enctype=text/plain", "value=v", api.Plan{Method: "dialog", Target: "t", Body: "v"}},
		{"method=dialog", "", api.Plan{Method: "dialog"}},
		{"method=dialog value=x", "value", api.Plan{Method: "dialog"}},
		{"method=post", "formmethod=Dialog formaction=/a formtarget=u value=v", api.Plan{Method: "dialog", Target: "u", Body: "v"}},
		{"target=_blank", "", get("?"+escapes, "_blank")},
		{"target=_SELF", "formtarget=_Top", get("?"+escapes, "_Top")},
	} {
		checkPlan(t, c.form+" / "+c.button, doc(form(c.form, button(c.button))), 0, 1, c.want)
		checkPlan(t, c.form+" / "+c.button+", by what doesn't submit", doc(form(c.form, button(c.button+" type=button"), button(""))), 0, 2, wantedOf(c.form))
		checkPlan(t, c.form+" / "+c.button+", by nobody", doc(form(c.form, button(c.button))), 0, -1, wantedOf(c.form))
	}
}

// wantedOf is the plan of a form with those attributes by a button that tells nothing.
func wantedOf(attrs string) api.Plan {
	d := doc(form(attrs))
	p, _ := slowMake(d, 0, -1, two(), []string{"q"})
	return p
}

// TestP24_3As holds that an action and a target are told as they are.
func TestP24_3As(t *testing.T) {
	for _, s := range []string{"", " ", "a", " /a b ", "javascript:x", "a\r\nb", "\x00\xff", "é", "\U0001f600", "%41", "&=+", `"`, strings.Repeat("x", api.MaxText), "mailto:a@b", "http://[::1]/"} {
		d := doc(el("html", "", form("").with("action", s).with("target", s), form("method=post").with("action", s).with("target", s), button("").with("formaction", s).with("formtarget", s), form("action=/x target=y"), form("method=post action=/x target=y")))
		for _, by := range [][2]int{{1, -1}, {4, 3}} {
			checkPlan(t, s, d, by[0], by[1], api.Plan{Method: "get", Action: s + "?" + escapes, Target: s})
		}
		for _, by := range [][2]int{{2, -1}, {5, 3}} {
			checkPlan(t, s, d, by[0], by[1], api.Plan{Method: "post", Action: s, Target: s, Body: escapes, Type: escapeType})
		}
	}
	for _, s := range []string{"a?", "a#", "?", "#", "a?b", "a#b", "?#", "a?b#c?d#e"} {
		d := doc(form("method=post action="+s, button("formmethod=get")))
		checkPlan(t, s, d, 0, -1, api.Plan{Method: "post", Action: s, Body: escapes, Type: escapeType})
		checkPlan(t, s, d, 0, 1, api.Plan{Method: "get", Action: slowQuery(s, escapes)})
	}
}

// TestP24_3Dialog has each kind of control as the submitter, with a state of which something could be told.
func TestP24_3Dialog(t *testing.T) {
	for i, p := range everyControl("value=v name=n") {
		p.state = api.Ctl{Value: "own", Checked: true, Files: []api.Entry{{FileName: "f"}}}
		if p.name == "select" {
			o := el("option", "value=o")
			o.state.Selected = true
			p.kids = []part{o}
		}
		want := ""
		if slices.Contains(firing, i+1) {
			want = "v"
		}
		checkPlan(t, "kind "+strconv.Itoa(i+1), doc(form("method=dialog", p)), 0, 1, api.Plan{Method: "dialog", Body: want})
	}
	d := doc(el("html", "", form("method=dialog value=f").holding("x"), el("output", "value=o").holding("x"), txt("text"), button("value=v disabled"), input("type=image"), input("type=submit").with("value", "a\r\nb \xff"), el("datalist", "", button("value=w"))))
	for id, want := range map[int]string{-1: "", 0: "", 1: "", 2: "", 3: "", 4: "v", 5: "", 6: "a\r\nb \xff", 7: "", 8: "w", 9: "", math.MaxInt: "", math.MinInt: ""} {
		checkPlan(t, "submitter "+strconv.Itoa(id), d, 1, id, api.Plan{Method: "dialog", Body: want})
	}
}

// TestP24_3Bound holds which boundaries are looked for, and that none is where there are no parts.
func TestP24_3Bound(t *testing.T) {
	entries := []api.Entry{{Name: "x", Value: "b1"}}
	eight := []string{"x", "b1", "", "form", "a_b", "b", "1", strings.Repeat("z", 71)}
	for _, c := range []struct {
		draws []string
		want  string
	}{
		{nil, ""}, {[]string{}, ""}, {[]string{"x"}, ""}, {[]string{"b1"}, ""}, {[]string{"q"}, "q"}, {[]string{"x", "q", "z"}, "q"}, {[]string{"", "z", "q"}, "z"},
		{eight, ""}, {append(slices.Clone(eight), "q"), ""}, {append(slices.Clone(eight[1:]), "q"), "q"}, {append(slices.Clone(eight[1:]), "q", "z"), "q"}, {roomy(eight[:2], "q"), ""},
	} {
		d := doc(form("method=post enctype=multipart/form-data action=/a target=t", button("formenctype=text/plain"), button("formmethod=get"), button("formmethod=dialog"), button("formenctype")))
		got, e := Make(d, 0, -1, entries, c.draws)
		body, _ := parts.Encode(entries, c.want)
		want, wantErr := api.Plan{Method: "post", Action: "/a", Target: "t", Body: body, Type: "multipart/form-data; boundary=" + c.want}, api.OK
		if c.want == "" {
			want, wantErr = api.Plan{}, api.ErrBound
		}
		if got != want || e != wantErr {
			t.Errorf("by %q the plan is %+v, %d, not %+v, %d", c.draws, got, e, want, wantErr)
		}
		for submitter, body := range map[int]string{1: "x=b1\r\n", 2: "", 3: "", 4: "x=b1"} {
			if got, e := Make(d, 0, submitter, entries, c.draws); e != api.OK || got.Body != body {
				t.Errorf("by %d and %q the plan is %+v, %d", submitter, c.draws, got, e)
			}
		}
	}
}

// TestP24_3Entries holds each way against its layer, for no entries too.
func TestP24_3Entries(t *testing.T) {
	for _, l := range [][]api.Entry{nil, {}, {{}}, {{Name: "a", Value: "1"}}, {{Name: "_charset_", Value: "UTF-8"}, {Value: "\x00\xff\r"}}, {{File: true}, {File: true, FileName: "é\"", Type: "\n", Value: "\xff"}}, {{Name: "#?&=", Value: "#?&="}}, two()} {
		inParts, _ := parts.Encode(l, "q")
		inPlain := plain.Encode(l)
		for attrs, want := range map[string]api.Plan{
			"action=/a?b#c":                           {Method: "get", Action: "/a?" + urlenc.Encode(l) + "#c"},
			"method=post":                             {Method: "post", Body: urlenc.Encode(l), Type: escapeType},
			"method=post enctype=text/plain":          {Method: "post", Body: inPlain, Type: "text/plain"},
			"method=dialog enctype=text/plain":        {Method: "dialog"},
			"method=post enctype=multipart/form-data": {Method: "post", Body: inParts, Type: partsType},
		} {
			if got, e := Make(doc(form(attrs)), 0, -1, l, []string{"q"}); e != api.OK || got != want {
				t.Errorf("%s: of %+v the plan is %+v, %d", attrs, l, got, e)
			}
		}
	}
}

// TestP24_4Kinds has a key in one control of each kind, alone in its form.
func TestP24_4Kinds(t *testing.T) {
	for i, p := range everyControl("") {
		for _, b := range []struct {
			kids     []part
			id, kind int
		}{{nil, 1, 2}, {[]part{button("type=button"), button("type=reset"), el("textarea", "")}, 1, 2}, {[]part{button("")}, 3, 1}, {[]part{button("disabled")}, -1, 0}} {
			want, kind := -1, 0
			if i+1 >= api.KText && i+1 <= api.KNumber {
				want, kind = b.id, b.kind
			}
			checkEnter(t, "kind "+strconv.Itoa(i+1), doc(el("html", "", form("", append([]part{p}, b.kids...)...))), 2, want, kind)
		}
	}
	for _, name := range append(slices.Clone(otherNames), "form", "") {
		checkEnter(t, name, doc(el("html", "", form("", part{name: name}))), 2, -1, 0)
		checkEnter(t, name, doc(el("html", "", form("", part{name: name}, button("")))), 2, -1, 0)
	}
	d := mixed()
	for _, id := range append(noNodes, len(d.Nodes)) {
		checkEnter(t, "a node that isn't there", d, id, -1, 0)
	}
}

func TestP24_4Mixed(t *testing.T) {
	d := mixed()
	for id, want := range [][2]int{{-1, 0}, {-1, 0}, {3, 1}, {-1, 0}, {-1, 0}, {3, 1}, {-1, 0}, {-1, 0}, {-1, 0}, {-1, 0}, {9, 2}} {
		checkEnter(t, "mixed", d, id, want[0], want[1])
	}
}

func TestP24_4(t *testing.T) {
	for _, c := range []struct {
		why      string
		p        part // within html, as node 1
		id       int
		want     int
		wantKind int
	}{
		{"alone", form("", input("")), 2, 1, 2},
		{"readonly", form("", input("readonly required")), 2, 1, 2},
		{"disabled", form("", input("disabled")), 2, -1, 0},
		{"disabled, with a button", form("", input("disabled=no"), button("")), 2, -1, 0},
		{"within a disabled fieldset", form("", el("fieldset", "disabled", input(""))), 3, -1, 0},
		{"within its first legend", form("", el("fieldset", "disabled", el("legend", "", input("")))), 4, 1, 2},
		{"within its second legend", form("", el("fieldset", "disabled", el("legend", ""), el("legend", "", input("")))), 5, -1, 0},
		{"of no form", el("div", "", input("")), 2, -1, 0},
		{"of no form, with a button of none", el("div", "", input(""), button("")), 2, -1, 0},
		{"of a form that isn't there", form("", input("form=x"), button("")), 2, -1, 0},
		{"of another form", el("div", "", form("id=f", button("")), form("", input("form=f"))), 5, 3, 1},
		{"of another form, without a button", el("div", "", form("id=f"), form("", input("form=f"), button(""))), 4, 2, 2},
		{"a button behind", form("", input(""), button("")), 2, 3, 1},
		{"a button ahead", form("", button(""), input("")), 3, 2, 1},
		{"an image", form("", input(""), input("type=image")), 2, 3, 1},
		{"an input that submits", form("", input(""), input("type=submit")), 2, 3, 1},
		{"two buttons", form("", input(""), button(""), button("")), 2, 3, 1},
		{"the first is disabled", form("", input(""), button("disabled"), button("")), 2, -1, 0},
		{"the second is disabled", form("", input(""), button(""), button("disabled")), 2, 3, 1},
		{"the only one is disabled", form("", input(""), button("disabled")), 2, -1, 0},
		{"its button is within a disabled fieldset", form("", input(""), el("fieldset", "disabled", button(""))), 2, -1, 0},
		{"its button is within the legend of one", form("", input(""), el("fieldset", "disabled", el("legend", "", button("")))), 2, 5, 1},
		{"a disabled image", form("", input(""), input("type=image disabled"), button("")), 2, -1, 0},
		{"a button, and many fields", form("", input(""), input(""), input("type=url"), button("")), 2, 5, 1},
		{"a disabled button, and many fields", form("", input(""), input(""), button("disabled")), 2, -1, 0},
		{"a button within a list of data", form("", input(""), el("datalist", "", button(""))), 2, 4, 1},
		{"a button that tells it", el("div", "", form("id=f", input("")), button("form=f")), 3, 4, 1},
		{"a button that tells another", el("div", "", form("", input(""), button("form=f")), form("id=f")), 3, 2, 2},
		{"buttons that submit nothing", form("", input(""), button("type=button"), button("type=reset"), input("type=reset"), input("type=button")), 2, 1, 2},
		{"two fields", form("", input(""), input("")), 2, -1, 0},
		{"two fields, the second", form("", input(""), input("type=number")), 3, -1, 0},
		{"two fields, one disabled", form("", input(""), input("disabled")), 2, -1, 0},
		{"two fields, one readonly", form("", input(""), input("readonly")), 2, -1, 0},
		{"two fields, one within the other", form("", input("", input(""))), 2, -1, 0},
		{"two fields, one within a list of data", form("", input(""), el("datalist", "", input(""))), 2, -1, 0},
		{"two fields, one of another form", el("div", "", form("id=f"), form("", input(""), input("form=f"))), 4, 3, 2},
		{"two fields, one of no form", form("", input(""), input("form=x")), 2, 1, 2},
		{"two fields, one from outside", el("div", "", form("id=f", input("")), input("form=f")), 3, -1, 0},
		{"two forms", form("", input(""), form("", input(""))), 2, 1, 2},
		{"two forms, the inner one", form("", input(""), form("", input(""))), 4, 3, 2},
		{"many that don't block", form("", input(""), el("select", ""), el("textarea", ""), input("type=range"), input("type=checkbox"), input("type=color"), input("type=hidden"), input("type=file"), input("type=radio"), el("output", ""), el("fieldset", "")), 2, 1, 2},
		{"a form that is disabled", form("disabled", input("")), 2, 1, 2},
		{"a form that asks nothing", form("novalidate method=dialog", input("")), 2, 1, 2},
		{"within a disabled fieldset, with its form", el("fieldset", "disabled", form("", input(""))), 3, -1, 0},
	} {
		checkEnter(t, c.why, doc(el("html", "", c.p)), c.id, c.want, c.wantKind)
	}
	apart := doc(el("html", "", form("id=f")), form("id=g", input("form=f"), button("form=f")), input("form=f"))
	for id, want := range map[int][2]int{3: {4, 1}, 5: {-1, 0}} {
		checkEnter(t, "apart", apart, id, want[0], want[1])
	}
	turned := doc(form("", button(""), button(""), input("")))
	turned.Nodes[0].Kids = []int{3, 2, 1}
	checkEnter(t, "not in the numbers' order", turned, 3, 2, 1)
}

// TestP24_4Two has a field of each kind beside one of each kind.
func TestP24_4Two(t *testing.T) {
	blocks := func(kind int) bool { return kind >= api.KText && kind <= api.KNumber }
	for i, first := range everyControl("") {
		for j, second := range everyControl("disabled") {
			want := -1
			if blocks(i+1) && !blocks(j+1) && !slices.Contains(firing, j+1) {
				want = 0
			}
			if got, kind := Enter(doc(form("", first, second)).Nodes, 1); got != want || kind != 2*(want+1) {
				t.Errorf("kind %d beside kind %d: %d, %d", i+1, j+1, got, kind)
			}
		}
	}
}

func TestExamples(t *testing.T) {
	if got := Query("/a?b#c", "d=1"); got != "/a?d=1#c" {
		t.Error(got)
	}
	checkEnter(t, "the example", doc(form("", input("type=text"))), 1, 0, 2)
}

// slowSetting asks layer 10 for attributes.
func slowSetting(l []api.Node, form, submitter int, own, general string) string {
	if slowFires(l, submitter) {
		if value, ok := tree.Attr(l, submitter, own); ok {
			return value
		}
	}
	value, _ := tree.Attr(l, form, general)
	return value
}

func slowFires(l []api.Node, id int) bool {
	return tree.Order(l, id) != nil && slices.Contains(firing, kinds.Of(l[id]))
}

// slowAsked is Method, Kind and Asks told as asked tells them.
func slowAsked(l []api.Node, form, submitter int) string {
	if tree.Order(l, form) == nil {
		return " 0 false"
	}
	method, kind := "get", "1"
	for _, s := range []string{"post", "dialog"} {
		if strings.EqualFold(slowSetting(l, form, submitter, "formmethod", "method"), s) {
			method = s
		}
	}
	for s, n := range map[string]string{"multipart/form-data": "2", "text/plain": "3"} {
		if strings.EqualFold(slowSetting(l, form, submitter, "formenctype", "enctype"), s) {
			kind = n
		}
	}
	_, off := tree.Attr(l, form, "novalidate")
	_, offOwn := tree.Attr(l, submitter, "formnovalidate")
	return fmt.Sprint(method, " ", kind, " ", !off && !(offOwn && slowFires(l, submitter)))
}

func slowMake(d api.Doc, form, submitter int, entries []api.Entry, draws []string) (api.Plan, api.Errno) {
	l := d.Nodes
	if len(d.Ctls) != len(l) || tree.Order(l, form) == nil {
		return api.Plan{}, api.ErrNode
	}
	if l[form].Name != "form" {
		return api.Plan{}, api.ErrKind
	}
	words := strings.Fields(slowAsked(l, form, submitter))
	action := slowSetting(l, form, submitter, "formaction", "action")
	p := api.Plan{Method: words[0], Target: slowSetting(l, form, submitter, "formtarget", "target")}
	switch p.Method {
	case "get":
		p.Action = slowQuery(action, urlenc.Encode(entries))
	case "dialog":
		if slowFires(l, submitter) {
			p.Body = valid.Value(d, submitter)
		}
	case "post":
		p.Action = action
		kind, _ := strconv.Atoi(words[1])
		b, e := parts.Choose(entries, draws)
		if kind == 2 && e != api.OK {
			return api.Plan{}, e
		}
		p.Body, p.Type, _ = plain.Body(kind, entries, b)
	}
	return p, api.OK
}

// slowEnter goes by the chapter's words, one behind the other.
func slowEnter(l []api.Node, id int) (int, int) {
	if tree.Order(l, id) == nil || !kinds.Blocks(kinds.Of(l[id])) || owner.Disabled(l, id) || owner.Form(l, id) < 0 {
		return -1, 0
	}
	form := owner.Form(l, id)
	first := owner.Default(l, form)
	if first >= 0 && !owner.Disabled(l, first) {
		return first, 1
	}
	if first >= 0 {
		return -1, 0
	}
	blocking := 0
	for _, id := range owner.Elements(l, form) {
		if kinds.Blocks(kinds.Of(l[id])) {
			blocking++
		}
	}
	if blocking <= 1 {
		return form, 2
	}
	return -1, 0
}

// draw is one of list.
func draw(r *rand.Rand, list ...string) string { return list[r.Intn(len(list))] }

// drawAttrs draws of the attributes that tell anything.
func drawAttrs(r *rand.Rand) []api.Attr {
	var out []api.Attr
	add := func(odds int, name string, values ...string) {
		if r.Intn(odds) == 0 {
			out = append(out, api.Attr{Name: name, Value: draw(r, values...)})
		}
	}
	add(1, "type", slices.Concat(inputTypes, []string{"submit", "submit", "image", "nothing"})...)
	add(8, "disabled", "")
	add(3, "value", "v", "w", "")
	add(4, "id", "f", "g", "")
	add(8, "form", "f", "g", "x")
	for _, ahead := range []string{"", "form"} {
		add(3, ahead+"method", "post", "POST", "dialog", "Dialog", "get", "")
		add(3, ahead+"enctype", "multipart/form-data", "Multipart/form-Data", "text/plain", "TEXT/PLAIN", "")
		add(3, ahead+"action", "/a", "/b?c", "/b#d", "/b?c#d", "#d?c", "")
		add(3, ahead+"target", "t", "u", "")
		add(8, ahead+"novalidate", "")
	}
	r.Shuffle(len(out), func(i, j int) { out[i], out[j] = out[j], out[i] })
	return out
}

// drawDoc puts nodes into one another in any way, by layer 10, so that their numbers don't stand in order, and some stand apart.
func drawDoc(r *rand.Rand, most int) api.Doc {
	names := []string{"input", "input", "input", "input", "button", "button", "form", "form", "form", "select", "textarea", "fieldset", "legend", "output", "div", ""}
	l := []api.Node{{Name: draw(r, "form", "html"), Parent: -1, Attrs: drawAttrs(r)}}
	for n := r.Intn(most); n > 0; n-- {
		name := draw(r, names...)
		if name == "" {
			l, _, _ = tree.Add(l, name, "x")
			continue
		}
		l, _, _ = tree.Add(l, name, "")
		l[len(l)-1].Attrs = drawAttrs(r)
	}
	for n := (1 + r.Intn(4)) * len(l); n > 0; n-- {
		if next, e := tree.Insert(l, r.Intn(len(l)), r.Intn(len(l)), -1); e == api.OK {
			l = next
		}
	}
	d := api.Doc{Nodes: l}
	for range l {
		d.Ctls = append(d.Ctls, api.Ctl{Value: draw(r, "", "own"), Checked: r.Intn(2) == 0})
	}
	return d
}

func drawEntries(r *rand.Rand) []api.Entry {
	var l []api.Entry
	for n := r.Intn(3); n > 0; n-- {
		l = append(l, api.Entry{Name: draw(r, "a", "b c", ""), Value: draw(r, "1", "x\ny", "q"), File: r.Intn(3) == 0, FileName: draw(r, "n", ""), Type: draw(r, "t", "")})
	}
	return l
}

// TestP24_3Drawn holds Method, Kind, Asks and Make against the chapter's words for each node of drawn documents by each submitter, and sees that all that can be told comes by.
func TestP24_3Drawn(t *testing.T) {
	r := rand.New(rand.NewSource(24))
	met := map[string]int{}
	for range 2500 {
		d := drawDoc(r, 12)
		entries, draws := drawEntries(r), []string{"q", "z", "x"}[:r.Intn(4)]
		for form := -1; form <= len(d.Nodes); form++ {
			for submitter := -1; submitter <= len(d.Nodes); submitter++ {
				told := slowAsked(d.Nodes, form, submitter)
				checkAsked(t, "drawn", d, form, submitter, told)
				got, e := Make(d, form, submitter, entries, draws)
				want, wantErr := slowMake(d, form, submitter, entries, draws)
				if e != wantErr || got != want || t.Failed() {
					t.Fatalf("Make of %d by %d of %+v is %+v, %d, not %+v, %d", form, submitter, d, got, e, want, wantErr)
				}
				met[fmt.Sprint(e)]++
				met[told]++
				met[got.Method+" "+got.Type]++
				met[got.Method+" "+got.Action]++
				met[got.Method+" to "+got.Target]++
				met[got.Method+" with "+got.Body]++
			}
		}
	}
	wanted := []string{"counterfoil: 0", "counterfoil: 3", "counterfoil: 4", "counterfoil: 10", " 0 false", "post multipart/form-data; boundary=q", "post multipart/form-data; boundary=z", "post text/plain", "post " + escapeType, "post /b?c#d", "post #d?c", "get /a?", "get ?#d?c", "get /b?a=1#d", "dialog with v", "dialog with w", "dialog with ", "post with a=1", "post with --q--\r\n"}
	for _, method := range []string{"get", "post", "dialog"} {
		for _, rest := range []string{" 1 true", " 1 false", " 2 true", " 2 false", " 3 true", " 3 false", " to t", " to u", " to "} {
			wanted = append(wanted, method+rest)
		}
	}
	for _, s := range wanted {
		if met[s] < 20 {
			t.Errorf("only %d of %q were drawn", met[s], s)
		}
	}
}

// TestP24_4Drawn holds Enter against the chapter's words for each node of drawn documents.
func TestP24_4Drawn(t *testing.T) {
	r := rand.New(rand.NewSource(4))
	met := map[string]int{}
	for range 8000 {
		d := drawDoc(r, 20)
		for id := -1; id <= len(d.Nodes); id++ {
			want, kind := slowEnter(d.Nodes, id)
			checkEnter(t, "drawn", d, id, want, kind)
			if t.Failed() {
				t.Fatalf("%+v", d)
			}
			if id < 0 || id >= len(d.Nodes) || !kinds.Blocks(kinds.Of(d.Nodes[id])) {
				continue
			}
			form := owner.Form(d.Nodes, id)
			_, isTold := tree.Attr(d.Nodes, id, "form")
			met[fmt.Sprint(kind, " of a form ", form >= 0, ", told ", isTold, ", with a button ", owner.Default(d.Nodes, form) >= 0)]++
		}
	}
	for _, s := range []string{"0 of a form false, told true, with a button false", "0 of a form false, told false, with a button false", "0 of a form true, told true, with a button true", "0 of a form true, told false, with a button true", "0 of a form true, told true, with a button false", "0 of a form true, told false, with a button false", "1 of a form true, told true, with a button true", "1 of a form true, told false, with a button true", "2 of a form true, told true, with a button false", "2 of a form true, told false, with a button false"} {
		if met[s] < 20 {
			t.Errorf("only %d of %q were drawn", met[s], s)
		}
	}
}

// TestR1Odd asks of numbers that are no nodes, as forms and as submitters, in documents of any kind.
func TestR1Odd(t *testing.T) {
	docs := slices.Concat(wrongNodes(), wrongStates(), []api.Doc{mixed(), doc(form("")), {Ctls: make([]api.Ctl, 3)}, doc(txt("form"))})
	for _, d := range docs {
		for _, form := range append(noNodes, 0, 1, 3, len(d.Nodes)-1, len(d.Nodes)) {
			want, kind := slowEnter(d.Nodes, form)
			checkEnter(t, "odd", d, form, want, kind)
			for _, submitter := range append(noNodes, 0, 1, 3, len(d.Nodes)-1, len(d.Nodes)) {
				checkAsked(t, "odd", d, form, submitter, slowAsked(d.Nodes, form, submitter))
				got, e := Make(d, form, submitter, nil, nil)
				want, wantErr := slowMake(d, form, submitter, nil, nil)
				if e != wantErr || got != want {
					t.Fatalf("Make of %d by %d is %+v, %d, not %+v, %d", form, submitter, got, e, want, wantErr)
				}
			}
		}
	}
}

// TestR1Most asks of as many nodes and attributes as there may be, and of many entries.
func TestR1Most(t *testing.T) {
	var attrs []string
	for i := range api.MaxAttrs {
		attrs = append(attrs, "a"+strconv.Itoa(i))
	}
	many := strings.Join(attrs, " ")
	var fields []part
	deep := input(many)
	for range api.MaxNodes - 2 {
		fields = append(fields, input(many))
		deep = input(many, deep)
	}
	wide := doc(form("method=post", append(fields, button("formmethod=dialog value=v"))...))
	checkEnter(t, "many, with a button", wide, 1, api.MaxNodes-1, 1)
	checkAsked(t, "many", wide, 0, api.MaxNodes-1, "dialog 1 true")
	checkPlan(t, "many", wide, 0, api.MaxNodes-1, api.Plan{Method: "dialog", Body: "v"})
	checkEnter(t, "many within one another", doc(form("", deep)), api.MaxNodes-1, -1, 0)
	var entries []api.Entry
	for i := range 100000 {
		entries = append(entries, api.Entry{Name: "name", Value: strconv.Itoa(i)})
	}
	for attrs, length := range map[string]int{"": len(urlenc.Encode(entries)) + 1, "method=post enctype=text/plain": len(plain.Encode(entries))} {
		if got, e := Make(doc(form(attrs)), 0, -1, entries, nil); e != api.OK || len(got.Action)+len(got.Body) != length {
			t.Errorf("%q: of many entries there are %d, %d bytes, %d", attrs, len(got.Action), len(got.Body), e)
		}
	}
	draws := slices.Repeat([]string{"name"}, 1<<20)
	draws[7] = "q"
	got, e := Make(doc(form("method=post enctype=multipart/form-data")), 0, -1, entries, draws)
	if body, _ := parts.Encode(entries, "q"); e != api.OK || got.Body != body {
		t.Errorf("of many entries in parts there are %d bytes, %d", len(got.Body), e)
	}
}

// roomy is a copy of list, with spare room behind it that is filled by more.
func roomy[T any](list []T, more ...T) []T {
	return append(slices.Clone(list), more...)[:len(list)]
}

// roomyDoc is forms of each method and way, each with buttons of some of their own, with spare room behind each of its lists.
func roomyDoc() api.Doc {
	var forms []part
	for _, method := range []string{"get", "post", "dialog", ""} {
		for _, way := range []string{"text/plain", "multipart/form-data", ""} {
			attrs := "method=" + method + " enctype=" + way + " action=/action target=target"
			forms = append(forms, form(attrs, button("value=value"), button("formaction=/own formtarget=mine value=other"), button("formaction= formtarget=")), form(attrs, input("value=value")))
		}
	}
	d := doc(el("html", "", forms...))
	for i := range d.Nodes {
		d.Nodes[i].Attrs = roomy(d.Nodes[i].Attrs, api.Attr{Name: "novalidate", Value: "spare"})
		d.Nodes[i].Kids = roomy(d.Nodes[i].Kids, 77, 78)
		d.Ctls[i].Files = roomy(d.Ctls[i].Files, api.Entry{FileName: "spare"})
	}
	return api.Doc{Nodes: roomy(d.Nodes, api.Node{Name: "spare"}), Ctls: roomy(d.Ctls, api.Ctl{Checked: true})}
}

// wholly is all of d, up to the ends of its spare rooms.
func wholly(d api.Doc) api.Doc {
	all := api.Doc{Nodes: slices.Clone(d.Nodes[:cap(d.Nodes)]), Ctls: slices.Clone(d.Ctls[:cap(d.Ctls)])}
	for i := range all.Nodes {
		n := &all.Nodes[i]
		n.Attrs, n.Kids = slices.Clone(n.Attrs[:cap(n.Attrs)]), slices.Clone(n.Kids[:cap(n.Kids)])
	}
	for i := range all.Ctls {
		all.Ctls[i].Files = slices.Clone(all.Ctls[i].Files[:cap(all.Ctls[i].Files)])
	}
	return all
}

func TestR4Unchanged(t *testing.T) {
	d, entries, draws := roomyDoc(), roomy(two(), api.Entry{Name: "spare"}), roomy([]string{"x", "form", "q"}, "spare")
	was, wasEntries, wasDraws := wholly(d), slices.Clone(entries[:cap(entries)]), slices.Clone(draws[:cap(draws)])
	for form := range d.Nodes {
		Enter(d.Nodes, form)
		for submitter := range d.Nodes {
			asked(d.Nodes, form, submitter)
			Make(d, form, submitter, entries, draws)
		}
	}
	if !reflect.DeepEqual(wholly(d), was) || !slices.Equal(entries[:cap(entries)], wasEntries) || !slices.Equal(draws[:cap(draws)], wasDraws) {
		t.Error("what was handed in is changed")
	}
}

// TestR4Texts holds that no two texts of the answers lie at one place, nor where what was handed in does.
func TestR4Texts(t *testing.T) {
	d, draws := roomyDoc(), []string{"form", "q"}
	taken := map[*byte]string{}
	take := func(s string) {
		if s != "" {
			taken[unsafe.StringData(s)] = s
		}
	}
	for _, n := range d.Nodes {
		for _, a := range n.Attrs {
			take(a.Value)
		}
	}
	take(draws[1])
	met := map[string]int{}
	look := func(s string) {
		if s == "" {
			return
		}
		if _, shared := taken[unsafe.StringData(s)]; shared {
			t.Fatalf("%q shares memory", s)
		}
		take(s)
		met[s]++
	}
	for form := range d.Nodes {
		for submitter := range d.Nodes {
			look(Method(d.Nodes, form, submitter))
			p, _ := Make(d, form, submitter, two(), draws)
			for _, s := range []string{p.Method, p.Action, p.Target, p.Body, p.Type} {
				look(s)
			}
		}
	}
	for _, s := range []string{"get", "post", "dialog", "/action", "/own", "target", "mine", "value", "other", "/action?" + escapes, "/own?" + escapes, "?" + escapes, "text/plain", escapeType, partsType, escapes, lines, partsByQ} {
		if met[s] < 2 {
			t.Errorf("only %d texts %q were asked", met[s], s)
		}
	}
	for _, action := range []string{"", "a", "#", "?", "a#b"} {
		for _, query := range []string{"", "q"} {
			take(action)
			take(query)
			look(Query(action, query))
			look(Query(action, query))
		}
	}
}
