package engine

import (
	"math"
	"reflect"
	"slices"
	"strings"
	"testing"
	"unsafe"

	"counterfoil/api"
	"counterfoil/group"
	"counterfoil/option"
)

// oddTexts are such as no person would write.
func oddTexts() []string {
	return []string{"", "\x00", "\xff\xfe", "a\xc3", "\r", " ", "html", "type", "value", "multiple", "é\u2028", strings.Repeat("x", api.MaxText), strings.Repeat("x", api.MaxText+1), strings.Repeat("\n", 100000)}
}

// TestR1Odd: no step panics, and each leaves a right document.
func TestR1Odd(t *testing.T) {
	for _, parts := range [][]part{nil, {txt("t")}, {form("", in(""), el("select", "", el("option", "")), el("textarea", "", txt("t")), in("type=file"), in("type=radio name=r"), button(""), el("label", "", el("b", "")))}} {
		w := page(t, parts...)
		ids := append(noNodes, 0, 1, 2, 3, 4, 5, 6, 7, 8, 9, 10, 11)
		for _, id := range ids {
			for _, s := range oddTexts() {
				w.Set(id, s, s)
				w.Set(id, "type", s)
				w.Unset(id, s)
				w.Write(id, s)
				w.Custom(id, s)
				w.Type(id, s)
				w.Pick(id, []api.Entry{{Name: s, Value: s, FileName: s, Type: s}})
				w.Add(s, s)
				w.Listen(api.Listener{Node: id, Type: s, Acts: []api.Act{{Kind: len(s), Node: id, Name: s, Value: s}}})
			}
			for _, other := range ids {
				w.Submit(id, other)
				w.Submit(other, id)
				w.Insert(id, other, id)
				w.Insert(id, other, -1)
			}
			for _, on := range []bool{true, false} {
				w.Check(id, on)
				w.Choose(id, on)
			}
			w.Click(id)
			w.Enter(id)
			w.Reset(id)
			w.Ask(id)
			w.Remove(id)
		}
		if d := w.Doc(); !option.Right(d) || !group.One(d) {
			t.Errorf("odd steps leave %v", d)
		}
		for _, p := range w.Plans() {
			if p.Method == "" {
				t.Errorf("odd steps make the plan %v", p)
			}
		}
	}
}

// TestR1Most: worlds that are as full as they may be.
func TestR1Most(t *testing.T) {
	full := func(name string, attrs ...string) *World {
		w := page(t, form("id=f"))
		for len(w.doc.Nodes) < api.MaxNodes {
			id, _ := w.Add(name, "")
			w.Insert(1, id, -1)
			for i := 0; i+1 < len(attrs); i += 2 {
				w.Set(id, attrs[i], attrs[i+1])
			}
		}
		return w
	}
	for _, w := range []*World{full("input"), full("input", "type", "radio", "name", "r"), full("select"), full("textarea"), full("form"), full("fieldset", "disabled", ""), full("label", "for", "f"), full("button")} {
		for _, id := range []int{0, 1, 2, 399} {
			w.Click(id)
			w.Submit(id, none)
			w.Reset(id)
			w.Ask(id)
			w.Set(id, "value", "x")
		}
		if len(w.Doc().Nodes) != api.MaxNodes || len(w.Log()) == 0 {
			t.Errorf("a full world's log is %v", w.Log())
		}
	}
	w := full("input", "type", "checkbox")
	for range 32 {
		l := api.Listener{Node: 0, Type: "click", Capture: true}
		for i := range 8 {
			l.Acts = append(l.Acts, api.Act{Kind: []int{api.AClick, api.ASet, api.AReset, api.ASubmit}[i%4], Node: []int{7, 7, 1, 1}[i%4], Name: "checked"})
		}
		if e := w.Listen(l); e != api.OK {
			t.Fatal(e)
		}
	}
	if e := w.Click(9); e != api.OK || len(w.Log()) < 1000 {
		t.Errorf("a storm answers %d, its log is of %d", e, len(w.Log()))
	}
	deep := New(nil)
	for i := range api.MaxNodes - 1 {
		id, _ := deep.Add("div", "")
		deep.Insert(i, id, -1)
	}
	for i := range 32 {
		deep.Listen(api.Listener{Node: i * 12, Type: "click", Capture: i%2 == 0})
	}
	if e := deep.Click(399); e != api.OK || len(deep.Log()) != 33 {
		t.Errorf("a click at the end of a deep world answers %d: %v", e, deep.Log())
	}
}

// TestR5: worlds are apart from one another, and do the same by the same steps.
func TestR5(t *testing.T) {
	lines := "add form / insert 0 1 -1 / add input / insert 1 2 -1 / set 2 name a / on 1 submit 0 10,1,, / type 2 x / submit 1 / ask 1"
	one := New([]string{"b1"})
	all(t, one, lines)
	for range 20 {
		another := New([]string{"b1"})
		all(t, another, lines+" / click 2")
		all(t, another, "on 1 click 0 3,0,, / reset 1")
		same := New([]string{"b1"})
		all(t, same, lines)
		if !reflect.DeepEqual(look(same), look(one)) {
			t.Fatalf("the same steps make %v and %v", look(same), look(one))
		}
	}
}

// loose is a text whose bytes are changed once spoil is called.
func loose(s string) (text string, spoil func()) {
	bytes := []byte(s)
	return unsafe.String(unsafe.SliceData(bytes), len(bytes)), func() {
		for i := range bytes {
			bytes[i] = '!'
		}
	}
}

// TestR4Kept: what is handed in isn't kept as it is, nor changed.
func TestR4Kept(t *testing.T) {
	var spoils []func()
	of := func(s string) string {
		text, spoil := loose(s)
		spoils = append(spoils, spoil)
		return text
	}
	var w *World
	done := func(e api.Errno) {
		t.Helper()
		if e != api.OK {
			t.Errorf("a step answers %d", e)
		}
		ahead := look(w)
		for _, spoil := range spoils {
			spoil()
		}
		spoils = nil
		if now := look(w); !reflect.DeepEqual(now, ahead) || strings.Contains(strings.Join(allTexts(ahead), ""), "!") {
			t.Errorf("texts that were handed in change %v into %v", ahead, now)
		}
	}
	draws := []string{of("b1"), of("b2")}[:1]
	w = New(draws)
	draws[0], draws[:2][1] = "no boundary", "no boundary"
	for i, name := range []string{"form", "input", "textarea", "", "input", "select", "option", "option"} {
		text := ""
		if name == "" {
			text = of("content")
		}
		id, e := w.Add(of(name), text)
		done(e)
		done(w.Insert([]int{0, 1, 1, 3, 1, 1, 6, 6}[i], id, -1))
	}
	for _, a := range []struct {
		id          int
		name, value string
	}{{1, "method", "post"}, {1, "enctype", "multipart/form-data"}, {2, "name", "a"}, {3, "name", "area"}, {5, "type", "file"}, {5, "name", "f"}, {5, "multiple", ""}, {6, "name", "s"}, {7, "value", "one"}, {8, "value", "two"}} {
		done(w.Set(a.id, of(a.name), of(a.value)))
	}
	acts := []api.Act{{Kind: api.AAppend, Name: of("more"), Value: of("appended")}, {Kind: api.ASet, Node: 0, Name: of("seen"), Value: of("yes")}, {Kind: api.ACustom, Node: 5, Value: of("told")}, {Kind: api.AWrite, Node: 3, Value: of("area")}}[:3]
	l := api.Listener{Node: 1, Type: of("formdata"), Acts: acts}
	done(w.Listen(l))
	acts[0], acts[2], acts[:4][3] = api.Act{Kind: api.AReset, Node: 1}, api.Act{}, api.Act{}
	files := []api.Entry{{Name: of("n"), Value: of("hi"), FileName: of("file"), Type: of("text/x")}, {Value: of("second")}}[:1]
	done(w.Pick(5, files))
	if files[0].File {
		t.Error("Pick changes what is handed in")
	}
	files[0], files[:2][1] = api.Entry{Value: "another"}, api.Entry{}
	done(w.Type(2, of("typed")))
	done(w.Write(6, of("two")))
	done(w.Custom(6, of("bad")))
	done(w.Custom(6, ""))
	done(w.Custom(2, of("worse")))
	done(w.Unset(1, of("class")))
	done(w.Custom(2, ""))
	done(w.Submit(1, none))
	want := "--b1\r\nContent-Disposition: form-data; name=\"a\"\r\n\r\ntyped\r\n--b1\r\nContent-Disposition: form-data; name=\"area\"\r\n\r\ncontent\r\n--b1\r\nContent-Disposition: form-data; name=\"f\"; filename=\"file\"\r\nContent-Type: text/x\r\n\r\nhi\r\n--b1\r\nContent-Disposition: form-data; name=\"s\"\r\n\r\ntwo\r\n--b1\r\nContent-Disposition: form-data; name=\"more\"\r\n\r\nappended\r\n--b1--\r\n"
	if p := w.Plans(); len(p) != 1 || p[0].Body != want {
		t.Errorf("the plan is %q, not %q; the log is %v", p, want, w.Log())
	}
	if d := w.Doc(); !slices.Contains(d.Nodes[0].Attrs, api.Attr{Name: "seen", Value: "yes"}) || d.Ctls[5].Custom != "told" {
		t.Errorf("what listeners do is %v", d)
	}
}

// whole is a world all of whose lists and texts have something.
func whole(t *testing.T) *World {
	w := page(t, form("action=/p", in("name=a value=1"), el("textarea", "", txt("content")), in("type=file"), button("formmethod=post formtarget=t"), in("type=radio name=r checked"), el("select", "", el("option", "value=v"))))
	w.Pick(5, []api.Entry{{Name: "n", Value: "hi", FileName: "file", Type: "text/x"}})
	all(t, w, "submit 1 6 / custom 2 bad / on 1 click 0 1,0,name,value / click 2")
	return w
}

// TestR4Answers: what is answered shares no memory with the world, nor with what was answered ahead.
func TestR4Answers(t *testing.T) {
	w := whole(t)
	met := map[uintptr]string{}
	put := func(what string, v any) {
		for _, place := range places(reflect.ValueOf(v)) {
			if other, ok := met[place]; ok {
				t.Errorf("%s shares memory with %s", what, other)
			}
			met[place] = what
		}
	}
	for what, v := range map[string]any{"its nodes": w.doc.Nodes, "its states": w.doc.Ctls, "its log": w.log, "its plans": w.plans, "its listeners": w.listeners, "its draws": w.draws} {
		for _, place := range places(reflect.ValueOf(v)) {
			met[place] = what
		}
	}
	for range 2 {
		for what, v := range map[string]any{"Doc": w.Doc(), "Log": w.Log(), "Plans": w.Plans()} {
			if len(places(reflect.ValueOf(v))) < 4 {
				t.Errorf("%s has nothing", what)
			}
			put(what, v)
		}
	}
}

// TestR4Spoilt: a world stays what it is, whatever becomes of its answers.
func TestR4Spoilt(t *testing.T) {
	w := whole(t)
	ahead := look(w)
	d, log, plans := w.Doc(), w.Log(), w.Plans()
	for i := range d.Nodes {
		for k := range d.Nodes[i].Attrs {
			d.Nodes[i].Attrs[k] = api.Attr{}
		}
		for k := range d.Nodes[i].Kids {
			d.Nodes[i].Kids[k] = math.MaxInt
		}
		_, _ = append(d.Nodes[i].Attrs, api.Attr{}), append(d.Nodes[i].Kids, 7)
		d.Nodes[i] = api.Node{}
	}
	for i := range d.Ctls {
		for k := range d.Ctls[i].Files {
			d.Ctls[i].Files[k] = api.Entry{}
		}
		d.Ctls[i] = api.Ctl{}
	}
	_, _, _, _ = append(d.Nodes, api.Node{}), append(d.Ctls, api.Ctl{}), append(log, ""), append(plans, api.Plan{})
	clear(log)
	clear(plans)
	if now := look(w); !reflect.DeepEqual(now, ahead) {
		t.Errorf("what becomes of answers changes %v into %v", ahead, now)
	}
	run(t, w, "click 3")
	if now := w.Log(); !slices.Equal(now[:len(ahead.log)], ahead.log) || len(now) == len(ahead.log) {
		t.Errorf("behind it the log is %v", now)
	}
}

// places are where the texts and lists of v have their memory, spare room too.
func places(v reflect.Value) []uintptr {
	var out []uintptr
	switch v.Kind() {
	case reflect.String:
		if s := v.String(); s != "" {
			out = append(out, uintptr(unsafe.Pointer(unsafe.StringData(s))))
		}
	case reflect.Slice:
		if v.Cap() > 0 {
			out = append(out, v.Pointer())
		}
		for i := range v.Len() {
			out = append(out, places(v.Index(i))...)
		}
	case reflect.Struct:
		for i := range v.NumField() {
			out = append(out, places(v.Field(i))...)
		}
	}
	return out
}

// allTexts are all texts of what is seen.
func allTexts(s seen) []string {
	out := slices.Clone(s.log)
	for _, n := range s.doc.Nodes {
		out = append(out, n.Name, n.Text)
		for _, a := range n.Attrs {
			out = append(out, a.Name, a.Value)
		}
	}
	for _, c := range s.doc.Ctls {
		out = append(out, c.Value, c.Custom)
		for _, f := range c.Files {
			out = append(out, f.Name, f.Value, f.FileName, f.Type)
		}
	}
	return out
}
