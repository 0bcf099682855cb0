package fresh

import (
	"reflect"
	"slices"
	"strings"
	"testing"
	"unsafe"

	"counterfoil/api"
)

func entry(s string) api.Entry {
	return api.Entry{Name: s + "n", Value: s + "v", File: true, FileName: s + "f", Type: s + "t"}
}

func full(files []api.Entry) api.Ctl {
	return api.Ctl{Value: "value", Dirty: true, Typed: true, Checked: true, DirtyChecked: true, Mixed: true, Selected: true, DirtySelected: true, Custom: "custom", Files: files}
}

// owned are the places of all texts and files of c.
func owned(c api.Ctl) []uintptr {
	at := func(s string) uintptr { return uintptr(unsafe.Pointer(unsafe.StringData(s))) }
	out := []uintptr{at(c.Value), at(c.Custom)}
	for i := range c.Files {
		f := &c.Files[i]
		out = append(out, uintptr(unsafe.Pointer(f)), at(f.Name), at(f.Value), at(f.FileName), at(f.Type))
	}
	return slices.DeleteFunc(out, func(p uintptr) bool { return p == at("") || p == 0 })
}

func TestCtl(t *testing.T) {
	for _, c := range []api.Ctl{{}, {Value: "a"}, {Custom: "b"}, {Dirty: true}, {DirtySelected: true}, {Files: []api.Entry{{}}}, full(nil), full([]api.Entry{entry("a"), entry("b"), entry("a")})} {
		was := c
		was.Files = slices.Clone(c.Files)
		if got := Ctl(c); !reflect.DeepEqual(got, was) || !reflect.DeepEqual(c, was) {
			t.Errorf("Ctl is %+v of %+v, which was %+v", got, c, was)
		}
	}
	if got := Ctl(api.Ctl{Files: make([]api.Entry, 0, 3)}); got.Files != nil {
		t.Errorf("a list of nothing has room of %d", cap(got.Files))
	}
}

func TestCtls(t *testing.T) {
	if Ctls(nil) != nil || Ctls([]api.Ctl{}) != nil {
		t.Error("of nothing there is something")
	}
	files := []api.Entry{entry("a"), entry("b"), entry("spare")}[:2]
	list := []api.Ctl{full(files), {}, full(files), full(files[:1])}
	got := Ctls(list)
	if !reflect.DeepEqual(got, list) {
		t.Fatalf("Ctls is %+v, not %+v", got, list)
	}
	var places []uintptr
	for _, c := range slices.Concat(got, list[:1]) {
		places = append(places, owned(c)...)
	}
	slices.Sort(places)
	if len(slices.Compact(slices.Clone(places))) != len(places) {
		t.Error("memory is shared")
	}
	for i := range got {
		for j := range got[i].Files[:cap(got[i].Files)] {
			got[i].Files[:cap(got[i].Files)][j].Name = "mark"
		}
		got[i] = api.Ctl{Value: strings.Repeat("x", i)}
	}
	if !reflect.DeepEqual(list[0], full(files)) || files[0] != entry("a") || files[:3][2] != entry("spare") {
		t.Error("writing over the answer has changed what was handed in")
	}
}
