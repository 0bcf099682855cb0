package engine

import (
	"fmt"
	"math"
	"reflect"
	"slices"
	"strconv"
	"strings"
	"testing"

	"counterfoil/api"
)

func TestP25_3Click(t *testing.T) {
	w := page(t, form("", in("disabled"), txt("t"), el("fieldset", "disabled", el("legend", "", button("")), button("")), el("option", "disabled"), el("output", "disabled")))
	// 1 form, 2 input, 3 text, 4 fieldset, 5 legend, 6 and 7 buttons, 8 option, 9 output
	for line, want := range map[string]api.Errno{"click 99": api.ErrNode, "click -1": api.ErrNode, "click 3": api.ErrKind, "click 2": api.ErrState, "click 4": api.ErrState, "click 7": api.ErrState} {
		refusesLine(t, w, line, want)
	}
	tells(t, "what can't be disabled", w, "click 8 / click 9 / click 0 / click 1 / click 5", "event click 8;event click 9;event click 0;event click 1;event click 5")
	tells(t, "what stands in the legend", w, "click 6", "event click 6;event submit 1;event formdata 1;plan 1")
}

func TestClickCheckbox(t *testing.T) {
	w := page(t, form("", in("type=checkbox")))
	tells(t, "turned", w, "click 2", "event click 2;event input 2;event change 2")
	is(t, "turned", w, 2, "checked dirtychecked")
	run(t, w, "click 2")
	is(t, "turned again", w, 2, "dirtychecked")
	run(t, w, "remove 2")
	tells(t, "one that isn't connected", w, "click 2", "event click 2")
	is(t, "one that isn't connected", w, 2, "checked dirtychecked")
	w = page(t, in("type=checkbox"), in("type=checkbox checked"))
	all(t, w, "on 1 click 0 7,1,, 7,2,,x 1,0,, 5,1,type,")
	run(t, w, "click 1")
	is(t, "what listeners did is undone", w, 1, "")
	is(t, "but of it alone", w, 2, "checked dirtychecked")
	w = page(t, in("type=checkbox"))
	all(t, w, "on 1 click 0 8,1,,")
	tells(t, "one that is taken away", w, "click 1", "event click 1;click 1 2 0")
	is(t, "one that is taken away", w, 1, "checked dirtychecked")
	w = page(t, in("type=checkbox"))
	all(t, w, "on 1 click 0 4,1,disabled,")
	tells(t, "one that becomes disabled", w, "click 1", "event click 1;click 1 2 0")
	is(t, "one that becomes disabled", w, 1, "checked dirtychecked")
	w = page(t, in("type=checkbox"))
	all(t, w, "on 1 input 0 8,1,, / on 1 click 0 4,0,seen,x")
	tells(t, "change comes behind input, connected or not", w, "click 1", "event click 1;click 1 2 1;event input 1;input 1 2 0;event change 1")
	w = page(t, in(""))
	all(t, w, "on 1 click 0 4,1,type,checkbox")
	tells(t, "one that becomes a checkbox", w, "click 1", "event click 1;click 1 2 0;event input 1;event change 1")
	is(t, "one that becomes a checkbox", w, 1, "")
	w = page(t, in("type=checkbox"))
	all(t, w, "on 1 click 0 4,1,type,text 1,0,,")
	run(t, w, "click 1")
	is(t, "one that was a checkbox, and was prevented", w, 1, "")
}

// TestClickSeen: it is turned ahead of its event.
func TestClickSeen(t *testing.T) {
	w := page(t, form("", in("type=checkbox name=c"), in("type=radio name=r"), in("type=radio name=r checked value=2")))
	all(t, w, "on 2 click 0 10,1,, / on 3 click 0 10,1,,")
	all(t, w, "click 2 / click 3")
	if p := w.Plans(); len(p) != 2 || p[0].Action != "?c=on&r=2" || p[1].Action != "?c=on&r=on" {
		t.Errorf("what listeners see makes %v", p)
	}
}

func TestClickRadio(t *testing.T) {
	fresh := func() *World {
		return page(t, form("", in("type=radio name=r checked"), in("type=radio name=r"), in("type=radio")), in("type=radio name=r checked"))
	}
	w := fresh()
	tells(t, "another one", w, "click 3", "event click 3;event input 3;event change 3")
	is(t, "the one that was", w, 2, "")
	is(t, "the one that is", w, 3, "checked dirtychecked")
	is(t, "one of another group", w, 5, "checked")
	tells(t, "the same", w, "click 3", "event click 3;event input 3;event change 3")
	is(t, "the same", w, 3, "checked dirtychecked")
	run(t, w, "click 4")
	is(t, "one without a name", w, 4, "checked dirtychecked")
	is(t, "beside it", w, 3, "checked dirtychecked")
	tells(t, "one that isn't connected", w, "remove 2 / click 2", "event click 2")
	is(t, "one that isn't connected", w, 2, "checked dirtychecked")
	is(t, "it has no group any more", w, 3, "checked dirtychecked")

	for _, r := range []struct{ why, acts, two, three, five string }{
		{"prevented", "1,0,,", "checked", "", "checked"},
		{"prevented, and another one checked", "7,2,,x 1,0,,", "checked", "", "checked"},
		{"prevented, and none checked", "7,3,, 1,0,,", "checked", "", "checked"},
		{"prevented, and one of another group checked", "7,5,, 1,0,,", "checked", "", "dirtychecked"},
		{"prevented, and taken out of the group", "4,3,name,s 1,0,,", "checked", "", "checked"},
		{"prevented, and another one taken out", "4,2,name,s 7,2,,x 1,0,,", "checked", "", "checked"},
		{"prevented, and two groups made one", "4,5,form,f 4,1,id,f 1,0,,", "", "", "checked"},
		{"prevented, and no radio button", "4,2,type,text 1,0,,", "checked", "", "checked"},
		{"not prevented", "2,0,, 3,0,,", "", "checked dirtychecked", "checked"},
	} {
		w := fresh()
		if got := run(t, w, "on 3 click 0 "+r.acts); got != "ok" {
			t.Error(got)
		}
		run(t, w, "click 3")
		is(t, r.why, w, 2, r.two)
		is(t, r.why, w, 3, r.three)
		is(t, r.why, w, 5, r.five)
	}
}

// TestClickRefused: what was refused is undone as what was prevented.
func TestClickRefused(t *testing.T) {
	w := page(t, el("div", ""), in("type=checkbox"), in("type=radio name=r checked"), in("type=radio name=r"), form("", button("")))
	for range 4 {
		all(t, w, "on 1 click 0"+strings.Repeat(" 12,0,,", 8))
	}
	all(t, w, "on 1 click 0 12,2,, 12,4,, 12,6,, 10,5,, 11,5,,")
	ahead := len(w.Log())
	run(t, w, "click 1")
	if got := strings.Join(w.Log()[ahead+34:], ";"); got != "refused click 0;refused click 0;refused click 0;click 1 2 4;refused click 2;refused click 4;refused click 6;refused submit 5;refused reset 5" {
		t.Errorf("refused is %s", got)
	}
	is(t, "a checkbox", w, 2, "")
	is(t, "the one that was", w, 3, "checked")
	is(t, "the one that was clicked", w, 4, "")
	if w.Plans() != nil {
		t.Errorf("what was refused makes %v", w.Plans())
	}
}

// TestW5: a prevented click leaves all as it was.
func TestW5(t *testing.T) {
	parts := []part{form("id=f")}
	for _, kind := range inputTypes {
		parts[0].kids = append(parts[0].kids, in("name=a value=7 type="+kind), in("name=a checked type="+kind))
	}
	for _, kind := range []string{"submit", "reset", "button", "x"} {
		parts[0].kids = append(parts[0].kids, button("type="+kind, el("b", "")))
	}
	parts = append(parts, el("label", "for=c", el("b", "")), in("type=checkbox id=c checked"), el("select", "", el("option", "")), el("output", ""), el("fieldset", ""))
	w := page(t, parts...)
	all(t, w, "on 0 click 0 1,0,, / custom 2 bad / check 35 / check 33")
	for id, n := range w.Doc().Nodes {
		for range 2 {
			ahead := w.Doc()
			tells(t, n.Name, w, "click "+strconv.Itoa(id), fmt.Sprintf("event click %d;click 0 %d 0", id, map[bool]int{true: 2, false: 3}[id == 0]))
			if now := w.Doc(); !reflect.DeepEqual(now, ahead) {
				t.Errorf("a prevented click at %d, %s, changes %v into %v", id, n.Name, ahead, now)
			}
		}
	}
}

// TestClickActs: who acts on a click, and what comes of it.
func TestClickActs(t *testing.T) {
	plan := ";event submit 1;event formdata 1;plan 1"
	for _, r := range []struct {
		why  string
		kid  part
		id   int
		want string
	}{
		{"a submit", in("type=submit"), 2, plan},
		{"an image", in("type=image"), 2, plan},
		{"a reset", in("type=reset"), 2, ";event reset 1"},
		{"a button of nothing", in("type=button"), 2, ""},
		{"a text", in("type=text"), 2, ""},
		{"hidden", in("type=hidden"), 2, ""},
		{"a file", in("type=file"), 2, ""},
		{"a button", button(""), 2, plan},
		{"a button of another type", button("type=x"), 2, plan},
		{"a button that resets", button("type=reset"), 2, ";event reset 1"},
		{"a plain button", button("type=button"), 2, ""},
		{"within a button", button("", el("b", "", el("i", ""))), 4, plan},
		{"an area within a button", button("", el("textarea", "")), 3, ""},
		{"within an area within a button", button("", el("textarea", "", el("b", ""))), 4, ""},
		{"within a select within a button", button("", el("select", "", el("option", ""))), 4, ""},
		{"an output within a button", button("", el("output", "", el("b", ""))), 4, ""},
		{"a fieldset within a button", button("", el("fieldset", "")), 3, plan},
		{"hidden within a button", button("", in("type=hidden")), 3, plan},
		{"a button of nothing within a button", button("", in("type=button")), 3, ""},
		{"a plain button within a button", button("", button("type=button")), 3, ""},
		{"a button within a plain button", button("type=button", button("")), 3, plan},
		{"within a disabled button", button("disabled", el("b", "")), 3, ""},
		{"within a disabled button within a button", button("", button("disabled", el("b", ""))), 4, ""},
		{"within a button in a disabled fieldset", el("fieldset", "disabled", button("", el("b", ""))), 4, ""},
		{"within a checkbox", in("type=checkbox", el("b", "")), 3, ""},
		{"within a checkbox within a button", button("", in("type=checkbox", el("b", ""))), 4, ""},
		{"a label", el("label", "", in("type=checkbox")), 2, ";event click 3;event input 3;event change 3"},
		{"within a label", el("label", "", el("b", ""), button("")), 3, ";event click 4" + plan},
		{"the control of a label", el("label", "", in("type=checkbox")), 3, ";event input 3;event change 3"},
		{"a text in a label", el("label", "", in(""), in("type=checkbox")), 3, ""},
		{"a label of hidden", el("label", "", in("type=hidden"), in("type=submit")), 2, ";event click 4" + plan},
		{"hidden in a label", el("label", "", in("type=hidden"), in("type=submit")), 3, ";event click 4" + plan},
		{"a label of a text", el("label", "", in("")), 2, ";event click 3"},
		{"a label of an output", el("label", "", el("output", "")), 2, ";event click 3"},
		{"a label of nothing", el("label", "", el("b", "")), 3, ""},
		{"a label for nothing", el("label", "for=x", button("")), 2, ""},
		{"a label of a disabled control", el("label", "", button("disabled")), 2, ""},
		{"a label within a button", button("", el("label", "", el("b", ""))), 4, ""},
		{"a label within a label", el("label", "", button(""), el("label", "", el("b", ""))), 5, ""},
		{"a button for another form", button("form=g"), 2, ""},
		{"a form", form("", el("b", "")), 3, ""},
	} {
		w := page(t, form("id=f", r.kid))
		tells(t, r.why, w, "click "+strconv.Itoa(r.id), "event click "+strconv.Itoa(r.id)+r.want)
	}
	w := page(t, form("id=f"), button("form=f"), in("type=reset form=f"), button(""), in("type=reset"), el("label", "for=b"), button("id=b form=f"))
	tells(t, "from afar", w, "click 2 / click 3", "event click 2"+plan+";event click 3;event reset 1")
	tells(t, "without a form", w, "click 4 / click 5", "event click 4;event click 5")
	tells(t, "a label from afar", w, "click 6", "event click 6;event click 7"+plan)
}

// TestClickLater: who acts is told behind the event, by the document as it is then.
func TestClickLater(t *testing.T) {
	parts := []part{form("", button("name=n value=v", el("b", "")), in("type=checkbox name=c")), form("id=g")}
	for _, r := range []struct{ why, acts, want string }{
		{"as it was", "4,0,x,", "event submit 1;event formdata 1;plan 1"},
		{"taken out of the button", "8,3,,", ""},
		{"a button out of the form", "8,2,,", ""},
		{"a button of another form", "4,2,form,g", "event submit 5;event formdata 5;plan 5"},
		{"a button that resets", "4,2,type,reset", "event reset 1"},
		{"a disabled button", "4,2,disabled,", ""},
		{"a form that isn't connected", "8,1,,", ""},
	} {
		w := page(t, parts...)
		all(t, w, "on 3 click 0 "+r.acts)
		tells(t, r.why, w, "click 3", strings.TrimSuffix("event click 3;click 3 2 0;"+r.want, ";"))
	}
	w := page(t, el("label", "", in("type=checkbox"), in("type=radio")))
	all(t, w, "on 1 click 0 4,2,type,hidden / on 2 click 0")
	tells(t, "a label's control is told then", w, "click 1", "event click 1;click 1 2 0;event click 3;click 1 3 0;event input 3;event change 3")
}

func TestP25_3Enter(t *testing.T) {
	w := page(t, form("", in("name=a"), in("type=checkbox"), in("disabled"), button("name=b value=v"), button("name=c"), txt("t")), form("", in("name=a value=x")), in(""), form("", in(""), in("")), form("", in(""), button("disabled")))
	// 1: 2, 3, 4, 5, 6, 7; 8: 9; 10; 11: 12, 13; 14: 15, 16
	for line, want := range map[string]api.Errno{"enter 99": api.ErrNode, "enter -1": api.ErrNode, "enter 0": api.ErrState, "enter 1": api.ErrState, "enter 3": api.ErrState, "enter 4": api.ErrState, "enter 5": api.ErrState, "enter 7": api.ErrState, "enter 10": api.ErrState, "enter 12": api.ErrState, "enter 15": api.ErrState} {
		refusesLine(t, w, line, want)
	}
	tells(t, "a button", w, "enter 2", "event click 5;event submit 1;event formdata 1;plan 1")
	tells(t, "a form", w, "enter 9", "event submit 8;event formdata 8;plan 8")
	if p := w.Plans(); p[0].Action != "?a=&b=v" || p[1].Action != "?a=x" {
		t.Errorf("keys make %v", p)
	}
	all(t, w, "on 5 click 0 1,0,, / on 8 submit 0 1,0,,")
	tells(t, "prevented", w, "enter 2 / enter 9", "event click 5;click 5 2 0;event submit 8;submit 8 2 1")
	tells(t, "a form that isn't connected", w, "remove 8 / enter 9", "")
}

// TestW7Keys: a key in a control does what a click on the default button does.
func TestW7Keys(t *testing.T) {
	for _, b := range []part{in("type=submit name=s"), in("type=image name=s"), button("name=s value=1"), button("formmethod=post formnovalidate"), button("", el("b", ""))} {
		for _, lines := range []string{"unset 0 x", "on 1 submit 0 1,0,,", "on 0 click 1 1,0,,", "write 2  / set 2 required ", "on 1 formdata 0 9,0,x,y"} {
			make := func() *World {
				w := page(t, form("method=post", in("name=a value=1"), b))
				all(t, w, lines)
				return w
			}
			key, click := make(), make()
			if e1, e2 := key.Enter(2), click.Click(3); e1 != api.OK || e2 != api.OK || !reflect.DeepEqual(look(key), look(click)) {
				t.Errorf("%s: a key, %d, makes %v, a click, %d, makes %v", lines, e1, key.Log(), e2, click.Log())
			}
		}
	}
}

// TestW7Labels: a click on a label does what a click on its control does.
func TestW7Labels(t *testing.T) {
	for _, kid := range []part{in("type=checkbox"), in("type=radio name=r checked"), in("type=radio name=s"), in("type=submit"), in("type=reset"), in(""), button(""), button("type=reset"), el("select", ""), in("type=checkbox disabled")} {
		make := func() *World { return page(t, form("", in("type=radio name=s checked"), el("label", "", kid))) }
		label, control := make(), make()
		label.Click(3)
		control.Click(4)
		if got := label.Log(); got[0] != "event click 3" || !slices.Equal(got[1:], control.Log()) || !reflect.DeepEqual(label.Doc(), control.Doc()) || !reflect.DeepEqual(label.Plans(), control.Plans()) {
			t.Errorf("a label makes %v, its control %v", got, control.Log())
		}
	}
}

func TestP25_4Submit(t *testing.T) {
	w := page(t, form("id=f", in("name=a value=1"), button("name=b value=v"), in("type=image"), in("type=submit form=g"), button("type=reset"), txt("t")), form("id=g"), button("form=f formmethod=post"), form(""))
	// 1: 2, 3, 4, 5, 6, 7; 8; 9; 10
	all(t, w, "remove 10")
	for line, want := range map[string]api.Errno{
		"submit 99": api.ErrNode, "submit -1": api.ErrNode, "submit 99 99": api.ErrNode, "submit 1 99": api.ErrNode, "submit 1 -2": api.ErrNode, "submit 2 99": api.ErrNode, "submit 0 -2": api.ErrNode, "submit 99 3": api.ErrNode,
		"submit 2": api.ErrKind, "submit 0": api.ErrKind, "submit 7": api.ErrKind, "submit 3 3": api.ErrKind, "submit 1 2": api.ErrKind, "submit 1 1": api.ErrKind, "submit 1 0": api.ErrKind, "submit 1 5": api.ErrKind, "submit 1 6": api.ErrKind, "submit 1 7": api.ErrKind, "submit 8 3": api.ErrKind, "submit 8 9": api.ErrKind, "submit 10 3": api.ErrKind,
	} {
		refusesLine(t, w, line, want)
	}
	done := "event submit 1;event formdata 1;plan 1"
	tells(t, "by nobody, and by each", w, "submit 1 / submit 1 3 / submit 1 4 / submit 1 9", done+";"+done+";"+done+";"+done)
	tells(t, "by one from afar", w, "submit 8 5", "event submit 8;event formdata 8;plan 8")
	tells(t, "a form that isn't connected", w, "submit 10", "")
	want := []api.Plan{{Method: "get", Action: "?a=1"}, {Method: "get", Action: "?a=1&b=v"}, {Method: "get", Action: "?a=1&x=0&y=0"}, {Method: "post", Body: "a=1", Type: "application/x-www-form-urlencoded"}, {Method: "get", Action: "?"}}
	if got := w.Plans(); !slices.Equal(got, want) {
		t.Errorf("the plans are %v, not %v", got, want)
	}
	all(t, w, "set 3 disabled ")
	if got := all(t, w, "submit 1 3"); got != "ok" {
		t.Errorf("a submitter that is disabled makes %s", got)
	}
}

// TestSubmitAsked: a form with what isn't valid isn't submitted, but for those that aren't asked.
func TestSubmitAsked(t *testing.T) {
	make := func(attrs string) *World {
		return page(t, form(attrs, in("required"), in(""), in("type=image"), el("textarea", "required"), button("formnovalidate"), button("")))
	}
	// 1: 2, 3, 4, 5, 6, 7
	w := make("")
	all(t, w, "custom 4 bad")
	tells(t, "each in order, once", w, "submit 1 / submit 1 7 / click 7 / enter 3", "event invalid 2;event invalid 4;event invalid 5;event invalid 2;event invalid 4;event invalid 5;event click 7;event invalid 2;event invalid 4;event invalid 5;event click 4;event invalid 2;event invalid 4;event invalid 5")
	tells(t, "not by one", w, "submit 1 6 / click 6", "event submit 1;event formdata 1;plan 1;event click 6;event submit 1;event formdata 1;plan 1")
	tells(t, "nor of a form", make("novalidate"), "submit 1 / click 7", "event submit 1;event formdata 1;plan 1;event click 7;event submit 1;event formdata 1;plan 1")
	all(t, w, "on 2 invalid 0 6,5,,x 6,2,,x 13,4,,")
	tells(t, "as they were", w, "submit 1", "event invalid 2;invalid 2 2 0;event invalid 4;event invalid 5")
	tells(t, "and then", w, "submit 1", "event submit 1;event formdata 1;plan 1")
	w = make("")
	all(t, w, "on 2 invalid 0 1,0,,")
	tells(t, "prevented or not", w, "submit 1", "event invalid 2;invalid 2 2 0;event invalid 5")
	w = make("")
	all(t, w, "on 2 invalid 0 6,2,,x 6,5,,x 10,1,, / on 5 invalid 0 10,1,,")
	tells(t, "a form whose controls are being asked", w, "submit 1 / submit 1", "event invalid 2;invalid 2 2 0;guard 1;event invalid 5;invalid 5 2 1;guard 1;event submit 1;event formdata 1;plan 1")
	w = make("")
	all(t, w, "on 2 invalid 0 6,2,,x 6,5,,x 10,1,,")
	tells(t, "by a step", w, "ask 1 / ask 1", "event invalid 2;invalid 2 2 0;guard 1;event invalid 5")
	w = make("")
	all(t, w, "on 2 invalid 0 6,2,,x 6,5,,x 10,1,,")
	tells(t, "one that is asked alone", w, "ask 2", "event invalid 2;invalid 2 2 0;event submit 1;event formdata 1;plan 1")
	w = page(t, form("", in("required")), form("", in("required")))
	all(t, w, "on 2 invalid 0 10,3,,")
	tells(t, "another form", w, "submit 1", "event invalid 2;invalid 2 2 0;event invalid 4")
	w = page(t, form("", in("required")), in("type=checkbox"))
	all(t, w, "on 2 invalid 0 11,1,, 12,3,,")
	tells(t, "it can be reset", w, "submit 1", "event invalid 2;invalid 2 2 0;event reset 1;event click 3;event input 3;event change 3")
}

// TestSubmitOnce: a form is guarded while submit is fired at it, and while it is building.
func TestSubmitOnce(t *testing.T) {
	make := func(lines string) *World {
		w := page(t, form("", in("name=a value=1"), button("name=b value=v"), in("type=checkbox name=c")), form(""))
		// 1: 2, 3, 4; 5
		all(t, w, lines)
		return w
	}
	for _, r := range []struct{ why, lines, want string }{
		{"while it is fired", "on 1 submit 0 10,1,, 10,1,,", "event submit 1;submit 1 2 0;guard 1;guard 1;event formdata 1;plan 1"},
		{"while it is fired, by a click", "on 1 submit 0 12,3,,", "event submit 1;submit 1 2 0;event click 3;guard 1;event formdata 1;plan 1"},
		{"while another one is fired", "on 1 submit 0 10,5,,", "event submit 1;submit 1 2 0;event submit 5;event formdata 5;plan 5;event formdata 1;plan 1"},
		{"one another", "on 1 submit 0 10,5,, / on 5 submit 0 10,1,,", "event submit 1;submit 1 2 0;event submit 5;submit 5 2 1;guard 1;event formdata 5;plan 5;event formdata 1;plan 1"},
		{"while it builds", "on 1 formdata 0 10,1,,", "event submit 1;event formdata 1;formdata 1 2 0;event submit 1;guard 1;plan 1"},
		{"while it builds, prevented", "on 1 formdata 0 10,1,, 4,0,x, / on 1 submit 0 4,0,y,", "event submit 1;submit 1 2 1;event formdata 1;formdata 1 2 0;event submit 1;submit 1 2 1;guard 1;plan 1"},
		{"while it is reset", "on 1 reset 0 10,1,, / on 1 submit 0 11,1,,", "event submit 1;submit 1 2 1;event reset 1;reset 1 2 0;guard 1;event formdata 1;plan 1"},
		{"prevented", "on 1 submit 0 1,0,,", "event submit 1;submit 1 2 0"},
		{"prevented from afar", "on 0 submit 1 1,0,, / on 1 submit 0", "event submit 1;submit 0 1 0;submit 1 2 1"},
		{"formdata can't be prevented", "on 1 formdata 0 1,0,,", "event submit 1;event formdata 1;formdata 1 2 0;plan 1"},
		{"taken away", "on 1 submit 0 8,1,,", "event submit 1;submit 1 2 0"},
		{"taken away while it builds", "on 1 formdata 0 8,1,,", "event submit 1;event formdata 1;formdata 1 2 0;plan 1"},
		{"it is building at once", "on 1 submit 0 6,2,,2 / on 1 formdata 0 6,2,,3", "event submit 1;submit 1 2 0;event formdata 1;formdata 1 2 1;plan 1"},
		{"what becomes invalid isn't asked any more", "on 1 submit 0 13,2,,bad", "event submit 1;submit 1 2 0;event formdata 1;plan 1"},
		{"the method is told at the end", "on 1 formdata 0 4,1,method,post", "event submit 1;event formdata 1;formdata 1 2 0;plan 1"},
	} {
		w := make(r.lines)
		for i := range 2 {
			if i == 1 && strings.Contains(r.why, "taken away") {
				break
			}
			if i == 1 && strings.Contains(r.why, "invalid") {
				tells(t, r.why, w, "submit 1 3", "event invalid 2")
				break
			}
			tells(t, r.why, w, "submit 1 3", r.want)
		}
		p := w.Plans()
		for _, plan := range p {
			if told := plan.Action + plan.Body; strings.Contains(r.why, "at once") && told != "?a=2&b=v" || strings.Contains(r.why, "at the end") && plan.Method != "post" {
				t.Errorf("%s: the plan is %+v", r.why, plan)
			}
		}
	}
}

// TestW6: a form makes one plan at most, whatever its listeners do, and a step fires at most thirty events.
func TestW6(t *testing.T) {
	for _, kind := range firedTypes {
		for _, acts := range []string{"10,1,,", "12,3,, 12,3,,", "10,1,, 11,1,, 12,2,, 10,1,,", "12,4,, 10,1,,", "8,1,, 10,1,,"} {
			w := page(t, form("", in("type=checkbox required"), button(""), el("label", "", button(""))))
			all(t, w, "check 2 / on 1 "+kind+" 0 "+acts+" / on 0 "+kind+" 1 "+acts+" / on 2 "+kind+" 0 "+acts)
			run(t, w, "submit 1")
			fired, plans := 0, 0
			for _, line := range w.Log() {
				if strings.HasPrefix(line, "event ") {
					fired++
				}
				if line == "plan 1" {
					plans++
				}
			}
			if plans > 1 && kind == "submit" || fired > 30 || plans != len(w.Plans()) {
				t.Errorf("%s, %s: %d events make %d plans, %d of them kept", kind, acts, fired, plans, len(w.Plans()))
			}
		}
	}
}

// TestSubmitRefused: formdata that is refused adds nothing, and takes nothing away.
func TestSubmitRefused(t *testing.T) {
	w := page(t, el("div", ""), form("", in("name=a value=1")))
	for range 3 {
		all(t, w, "on 1 click 0"+strings.Repeat(" 12,0,,", 8))
	}
	all(t, w, "on 1 click 0 12,0,, 12,0,, 12,0,, 12,0,, 10,2,, 10,2,, 11,2,, / on 2 formdata 0 9,0,x,y")
	ahead := len(w.Log())
	run(t, w, "click 1")
	if got := strings.Join(w.Log()[ahead+33:], ";"); got != "event submit 2;refused formdata 2;plan 2;refused submit 2;refused reset 2" {
		t.Errorf("refused is %s", got)
	}
	if p := w.Plans(); len(p) != 1 || p[0].Action != "?a=1" {
		t.Errorf("with formdata refused the plans are %v", p)
	}
}

func TestSubmitBound(t *testing.T) {
	parts := form("method=post enctype=multipart/form-data", in("name=a value=1"))
	for _, r := range []struct {
		draws []string
		lines string
		want  string
		body  string
	}{
		{[]string{"b1"}, "unset 0 x", "plan 1", "b1"},
		{[]string{"b1", "b2"}, "write 2 b1", "plan 1", "b2"},
		{[]string{"b1"}, "write 2 b1", "bound 1", ""},
		{nil, "unset 0 x", "bound 1", ""},
		{[]string{"no boundary"}, "unset 0 x", "bound 1", ""},
		{[]string{"b1", "b2"}, "on 1 formdata 0 9,0,b1,b2", "bound 1", ""},
		{nil, "unset 1 enctype", "plan 1", ""},
	} {
		w := New(r.draws)
		lay(t, w, 0, parts)
		all(t, w, r.lines)
		run(t, w, "submit 1")
		log, p := w.Log(), w.Plans()
		if log[len(log)-1] != r.want || (len(p) == 1) != (r.want == "plan 1") {
			t.Errorf("%v, %s: the log is %v, the plans are %v", r.draws, r.lines, log, p)
		}
		if r.body != "" && !strings.HasPrefix(p[0].Body, "--"+r.body+"\r\n") {
			t.Errorf("%v, %s: the plan is %v", r.draws, r.lines, p)
		}
		tells(t, "a form that was refused isn't building any more", w, "unset 1 method / submit 1", strings.Join(log[:len(log)-1], ";")+";plan 1")
	}
}

func TestP25_4Reset(t *testing.T) {
	w := page(t, form("", in("value=a"), in("type=checkbox checked"), in("type=radio name=r checked"), in("type=radio name=r"), in("type=file"), el("textarea", "", txt("t")), el("output", "", txt("o")), el("select", "", el("option", ""), el("option", "selected"), el("option", "")), button(""), txt("u"), in("type=image"), in("form=g value=b")))
	// 1: 2, 3, 4, 5, 6, 7 (8), 9 (10), 11 (12, 13, 14), 15, 16, 17, 18
	for line, want := range map[string]api.Errno{"reset 99": api.ErrNode, "reset -1": api.ErrNode, "reset 2": api.ErrKind, "reset 0": api.ErrKind, "reset 16": api.ErrKind} {
		refusesLine(t, w, line, want)
	}
	began := w.Doc()
	change := "type 2 x / click 3 / click 5 / file 6 n hi / write 7 x / write 9 x / choose 14 / type 18 x"
	all(t, w, change)
	for _, id := range []int{2, 3, 4, 5, 6, 7, 9, 13, 14, 18} {
		if reflect.DeepEqual(w.Doc().Ctls[id], began.Ctls[id]) {
			t.Errorf("%d is as it began", id)
		}
	}
	other := w.Doc().Ctls[18]
	tells(t, "a form", w, "reset 1", "event reset 1")
	began.Ctls[18] = other
	if got := w.Doc(); !reflect.DeepEqual(got, began) {
		t.Errorf("a form that was reset is %+v, not %+v", got, began)
	}
	all(t, w, change+" / custom 2 bad / custom 15 bad / custom 17 bad / remove 8")
	tells(t, "once more", w, "reset 1", "event reset 1")
	is(t, "what was told to be wrong stays", w, 2, "=a custom:bad")
	is(t, "a button", w, 15, "custom:bad")
	is(t, "an image", w, 17, "custom:bad")
	is(t, "an area by what it has now", w, 7, "")
	all(t, w, "set 5 checked  / set 2 value z")
	run(t, w, "reset 1")
	is(t, "a group is settled", w, 4, "")
	is(t, "a group is settled", w, 5, "checked")
	is(t, "a value by its attribute", w, 2, "=z custom:bad")
	all(t, w, "type 2 q / remove 1")
	tells(t, "a form that isn't connected is reset", w, "reset 1", "event reset 1")
	is(t, "a form that isn't connected", w, 2, "=z custom:bad")
}

func TestResetOnce(t *testing.T) {
	for _, r := range []struct{ why, lines, want, state string }{
		{"as it is", "unset 0 x", "event reset 1", "=a"},
		{"prevented", "on 1 reset 0 1,0,,", "event reset 1;reset 1 2 0", "=x dirty"},
		{"while it is fired", "on 1 reset 0 11,1,, 11,3,,", "event reset 1;reset 1 2 0;guard 1;event reset 3", "=a"},
		{"while another one is fired", "on 1 reset 0 11,3,, / on 3 reset 0 11,1,,", "event reset 1;reset 1 2 0;event reset 3;reset 3 2 1;guard 1", "=a"},
		{"written by a listener", "on 1 reset 0 6,2,,y", "event reset 1;reset 1 2 0", "=a"},
		{"with another attribute by a listener", "on 1 reset 0 4,2,value,y", "event reset 1;reset 1 2 0", "=y"},
		{"taken away by a listener", "on 1 reset 0 8,2,,", "event reset 1;reset 1 2 0", "=x dirty"},
		{"submitted by a listener", "on 1 reset 0 10,1,,", "event reset 1;reset 1 2 0;event submit 1;event formdata 1;plan 1", "=a"},
	} {
		w := page(t, form("", in("name=n value=a")), form(""))
		all(t, w, "write 2 x / "+r.lines)
		tells(t, r.why, w, "reset 1", r.want)
		is(t, r.why, w, 2, r.state)
		if p := w.Plans(); p != nil && p[0].Action != "?n=x" {
			t.Errorf("%s: the plan is %v", r.why, p)
		}
	}
}

// TestResetOrder: elements begin anew one behind the other, but what comes of it is settled at the end alone.
func TestResetOrder(t *testing.T) {
	w := page(t, el("div", "", form("id=f", in("type=radio name=r checked"))), in("type=radio name=r form=f checked"), in("type=radio name=r"))
	all(t, w, "check 3 / check 4 / check 5")
	is(t, "one of no form", w, 5, "checked dirtychecked")
	run(t, w, "reset 2")
	is(t, "the first", w, 3, "")
	is(t, "the last", w, 4, "checked")
	is(t, "one of no form", w, 5, "checked dirtychecked")
}

func TestP25_4Ask(t *testing.T) {
	w := page(t, form("", in("required"), in("required disabled"), in("type=email value=x"), in("type=image"), el("output", ""), txt("t"), el("fieldset", "disabled", in("required"))), form("", in("")), in("required"))
	// 1: 2, 3, 4, 5, 6, 7, 8 (9); 10: 11; 12
	for line, want := range map[string]api.Errno{"ask 99": api.ErrNode, "ask -1": api.ErrNode, "ask 0": api.ErrKind, "ask 6": api.ErrKind, "ask 7": api.ErrKind, "ask 8": api.ErrKind} {
		refusesLine(t, w, line, want)
		if ok, _ := w.Ask(6); ok {
			t.Error("beside an error the answer is true")
		}
	}
	for line, want := range map[string]string{"ask 1": "false", "ask 10": "true", "ask 2": "false", "ask 3": "true", "ask 4": "false", "ask 5": "true", "ask 9": "true", "ask 11": "true", "ask 12": "false"} {
		if got := run(t, w, line); got != want {
			t.Errorf("%s answers %s, not %s", line, got, want)
		}
	}
	tells(t, "a form, and controls", w, "ask 1 / ask 10 / ask 2 / ask 3 / ask 12", "event invalid 2;event invalid 4;event invalid 2;event invalid 12")
	all(t, w, "on 2 invalid 0 6,2,,x 6,4,, / on 0 invalid 1 4,0,y,")
	ahead := len(w.Log())
	if got := all(t, w, "ask 1 / ask 1 / custom 2 bad / ask 2"); got != "false / true / ok / false" {
		t.Errorf("asked twice the answers are %s", got)
	}
	if got := strings.Join(w.Log()[ahead:], ";"); got != "event invalid 2;invalid 0 1 1;invalid 2 2 0;event invalid 4;invalid 0 1 1;event invalid 2;invalid 0 1 1;invalid 2 2 0" {
		t.Errorf("as they were is told %s", got)
	}
	if got := all(t, w, "custom 2  / write 2  / ask 2 / ask 2"); got != "ok / ok / false / true" {
		t.Errorf("a control that becomes valid is told by %s", got)
	}
	tells(t, "a form that isn't connected", w, "write 2  / write 4 z / remove 1 / ask 1", "event invalid 2;invalid 2 2 0;event invalid 4")
}

// TestP25_4AskMost: more than thirty that aren't valid are asked, but no events are fired at the others.
func TestP25_4AskMost(t *testing.T) {
	var kids []part
	for range 35 {
		kids = append(kids, in("required"))
	}
	w := page(t, form("", kids...))
	for _, line := range []string{"submit 1", "ask 1"} {
		ahead := len(w.Log())
		run(t, w, line)
		got := w.Log()[ahead:]
		if len(got) != 35 || got[0] != "event invalid 2" || got[29] != "event invalid 31" || got[30] != "refused invalid 32" || got[34] != "refused invalid 36" {
			t.Errorf("%s tells %v", line, got)
		}
	}
}

func TestP25_5(t *testing.T) {
	w := page(t, form("method=post", in("name=a value=1")))
	run(t, w, "submit 1")
	want := seen{
		doc: api.Doc{Nodes: []api.Node{
			{Name: "html", Parent: -1, Kids: []int{1}},
			{Name: "form", Attrs: []api.Attr{{Name: "method", Value: "post"}}, Kids: []int{2}},
			{Name: "input", Attrs: []api.Attr{{Name: "name", Value: "a"}, {Name: "value", Value: "1"}}, Parent: 1},
		}, Ctls: []api.Ctl{{}, {}, {Value: "1"}}},
		log:   []string{"event submit 1", "event formdata 1", "plan 1"},
		plans: []api.Plan{{Method: "post", Body: "a=1", Type: "application/x-www-form-urlencoded"}},
	}
	if got := look(w); !reflect.DeepEqual(got, want) {
		t.Errorf("all that can be seen is %+v, not %+v", got, want)
	}
	for range 3 {
		if got := look(w); !reflect.DeepEqual(got, want) {
			t.Errorf("seen again it is %+v", got)
		}
	}
}

// TestP25_5Most: what is beyond the log and the plans is lost, and nothing else comes of it.
func TestP25_5Most(t *testing.T) {
	w := page(t, form("", in("name=a")))
	for i := range 70 {
		all(t, w, "write 2 "+strconv.Itoa(i)+" / submit 1")
	}
	p := w.Plans()
	if len(p) != 64 || p[0].Action != "?a=0" || p[63].Action != "?a=63" || len(w.Log()) != 210 || w.Log()[209] != "plan 1" {
		t.Errorf("of 70 plans %d are kept, from %v to %v; the log is of %d", len(p), p[0], p[len(p)-1], len(w.Log()))
	}
	w = page(t, form("", in("name=a"), in("type=checkbox")), el("div", ""))
	all(t, w, "on 4 click 0 12,4,,")
	for i := range 307 {
		run(t, w, "click 4")
		if got := len(w.Log()); got != 13*(i+1) {
			t.Fatalf("the log is of %d", got)
		}
	}
	all(t, w, "click 4 / click 3 / submit 1 / write 2 x")
	log := w.Log()
	if len(log) != 4000 || log[3999] != "event click 4" || log[3998] != "click 4 2 0" {
		t.Errorf("the log is of %d: %v", len(log), log[3990:])
	}
	is(t, "behind a full log", w, 3, "checked dirtychecked")
	if p := w.Plans(); len(p) != 1 || p[0].Action != "?a=" {
		t.Errorf("behind a full log the plans are %v", p)
	}
}

// TestNil: of a world that is nil each step tells so, whatever else is wrong.
func TestNil(t *testing.T) {
	var w *World
	for _, id := range append(noNodes, 0, 1) {
		long := strings.Repeat("x", api.MaxText+1)
		steps := []api.Errno{w.Insert(id, id, id), w.Remove(id), w.Set(id, "A", long), w.Unset(id, ""), w.Write(id, long), w.Check(id, true), w.Custom(id, long), w.Listen(api.Listener{Node: id, Type: long}), w.Type(id, long), w.Choose(id, true), w.Pick(id, make([]api.Entry, 9)), w.Click(id), w.Enter(id), w.Submit(id, id), w.Reset(id)}
		for i, e := range steps {
			if e != api.ErrNil {
				t.Errorf("step %d of nothing answers %d", i, e)
			}
		}
		if n, e := w.Add("A", long); n != 0 || e != api.ErrNil {
			t.Errorf("Add of nothing answers %d, %d", n, e)
		}
		if ok, e := w.Ask(id); ok || e != api.ErrNil {
			t.Errorf("Ask of nothing answers %v, %d", ok, e)
		}
	}
	if d := w.Doc(); d.Nodes != nil || d.Ctls != nil || w.Log() != nil || w.Plans() != nil {
		t.Errorf("of nothing is seen %v", d)
	}
}

// TestNodes: a node that isn't there comes ahead of all other errors, and changes nothing.
func TestNodes(t *testing.T) {
	long := strings.Repeat("x", api.MaxText+1)
	w := page(t, form("", in(""), txt("t"), button("")))
	for range 32 {
		run(t, w, "on 1 x 0")
	}
	for _, id := range append(noNodes, 5, 99, math.MaxInt32) {
		for what, step := range map[string]func() api.Errno{
			"Insert into":         func() api.Errno { return w.Insert(id, 0, -1) },
			"Insert of":           func() api.Errno { return w.Insert(3, id, -1) },
			"Remove":              func() api.Errno { return w.Remove(id) },
			"Set":                 func() api.Errno { return w.Set(id, "A", long) },
			"Unset":               func() api.Errno { return w.Unset(id, "") },
			"Write":               func() api.Errno { return w.Write(id, long) },
			"Check":               func() api.Errno { return w.Check(id, true) },
			"Custom":              func() api.Errno { return w.Custom(id, long) },
			"Listen":              func() api.Errno { return w.Listen(api.Listener{Node: id, Type: long, Acts: make([]api.Act, 9)}) },
			"Type":                func() api.Errno { return w.Type(id, long) },
			"Choose":              func() api.Errno { return w.Choose(id, true) },
			"Pick":                func() api.Errno { return w.Pick(id, make([]api.Entry, 9)) },
			"Click":               func() api.Errno { return w.Click(id) },
			"Enter":               func() api.Errno { return w.Enter(id) },
			"Submit":              func() api.Errno { return w.Submit(id, 4) },
			"Submit of no form":   func() api.Errno { return w.Submit(id, -1) },
			"Reset":               func() api.Errno { return w.Reset(id) },
			"Ask":                 func() api.Errno { _, e := w.Ask(id); return e },
			"Submit by, not a -1": func() api.Errno { return w.Submit(2, map[bool]int{true: -2, false: id}[id == -1]) },
			"Insert ahead of":     func() api.Errno { return w.Insert(3, 0, map[bool]int{true: -2, false: id}[id == -1]) },
		} {
			refuses(t, what+" "+strconv.Itoa(id), w, api.ErrNode, step)
		}
	}
}

// TestExamples are the chapter's, and those of the whole.
func TestExamples(t *testing.T) {
	w := page(t, form("", in("required"), button("")))
	tells(t, "a required text", w, "click 3", "event click 3;event invalid 2")
	if w.Plans() != nil {
		t.Error("a required text makes a plan")
	}
	for _, r := range []struct{ lines, want string }{
		{"add form / insert 0 1 -1 / add input / insert 1 2 -1 / set 2 name a / type 2 x y / enter 2 / log / plan 0", "1 / ok / 2 / ok / ok / ok / ok / event input 2;event submit 1;event formdata 1;plan 1 / get|?a=x+y|||"},
		{"add form / insert 0 1 -1 / add input / insert 1 2 -1 / set 2 type email / type 2 me / flags 2 / ask 1 / log", "1 / ok / 2 / ok / ok / ok / 2 / false / event input 2;event invalid 2"},
		{"add form / insert 0 1 -1 / add input / insert 1 2 -1 / set 2 type range / value 2 / set 2 max 10 / value 2 / write 2 3.4 / value 2", "1 / ok / 2 / ok / ok / 50 / ok / 10 / ok / 3"},
		{"add form / insert 0 1 -1 / add input / insert 1 2 -1 / set 2 type checkbox / on 2 click 0 1,0,, / click 2 / log / submit 1 / plans", "1 / ok / 2 / ok / ok / ok / ok / event click 2;click 2 2 0 / ok / 1"},
		{"add form / insert 0 1 -1 / set 1 method post / set 1 enctype text/plain / add textarea / insert 1 2 -1 / set 2 name t / text a / insert 2 3 -1 / write 2 b c / submit 1 / plan 0 / reset 1 / value 2", "1 / ok / ok / ok / 2 / ok / ok / 3 / ok / ok / ok / post|||t=b c\r\n|text/plain / ok / a"},
		{"add select / insert 0 1 -1 / add option / insert 1 2 -1 / text One  two / insert 2 3 -1 / value 1 / add option / set 4 value z / set 4 selected / insert 1 4 -1 / value 1 / choose 2 / value 1", "1 / ok / 2 / ok / 3 / ok / One two / 4 / ok / ok / ok / z / ok / One two"},
		{"add form / insert 0 1 -1 / on 1 submit 0 10,1,, / submit 1 / log", "1 / ok / ok / ok / event submit 1;submit 1 2 0;guard 1;event formdata 1;plan 1"},
		{"add input / set 1 type week / write 1 2020-W53 / value 1 / write 1 2021-W53 / value 1 / write 9 x", "1 / ok / ok / 2020-W53 / ok /  / error 4"},
		{"add label / insert 0 1 -1 / add input / set 2 type radio / set 2 name r / insert 1 2 -1 / click 1 / log / value 2 / click 0", "1 / ok / 2 / ok / ok / ok / ok / event click 1;event click 2;event input 2;event change 2 / on / ok"},
	} {
		if got := all(t, New([]string{"b1"}), r.lines); got != r.want {
			t.Errorf("%s answers\n%s, not\n%s", r.lines, got, r.want)
		}
	}
	w = page(t, form("method=post enctype=multipart/form-data", in("type=file name=f")))
	w.Pick(2, []api.Entry{{FileName: "a.txt", Type: "text/plain", Value: "hi"}})
	run(t, w, "submit 1")
	want := api.Plan{Method: "post", Body: "--b1\r\nContent-Disposition: form-data; name=\"f\"; filename=\"a.txt\"\r\nContent-Type: text/plain\r\n\r\nhi\r\n--b1--\r\n", Type: "multipart/form-data; boundary=b1"}
	if p := w.Plans(); len(p) != 1 || p[0] != want {
		t.Errorf("the plan is %+v", p)
	}
}
