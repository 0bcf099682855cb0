package event

import (
	"maps"
	"math"
	"math/rand"
	"reflect"
	"slices"
	"strconv"
	"strings"
	"testing"

	"counterfoil/api"
	"counterfoil/tree"
)

// noNodes are numbers that no document's nodes have, such among them as would be one if they were cut.
var noNodes = []int{-1, -2, -400, api.MaxNodes, api.MaxNodes + 1, 1 << 16, 1 << 31, -1 << 31, 1 << 32, 1<<32 + 1, -1<<32 + 1, math.MaxInt, math.MinInt, math.MinInt + 1}

// kindsOfEvents are all that the chapter names, with whether they bubble, and whether their defaults can be prevented.
var kindsOfEvents = map[string][2]bool{
	"click": {true, true}, "input": {true, false}, "change": {true, false}, "submit": {true, true},
	"formdata": {true, false}, "reset": {true, true}, "invalid": {false, true},
}

// node is one of a name that stands in parent; a text, if its name is empty.
func node(name string, parent int, kids ...int) api.Node {
	return api.Node{Name: name, Parent: parent, Kids: kids}
}

// mixed is html (0) with a form (4), in which are a label (1) with an input (6) and a text (5), and a button (2), and a div (3) beside the form; apart from them a p (7) with a form (8), and a text (9).
func mixed() []api.Node {
	return []api.Node{
		node("html", -1, 4, 3),
		node("label", 4, 6, 5),
		node("button", 4),
		node("div", 0),
		node("form", 0, 1, 2),
		{Text: "told", Parent: 1},
		node("input", 1),
		node("p", -1, 8),
		node("form", 7),
		{Text: "apart", Parent: -1},
	}
}

// mixedPaths are the paths to mixed's nodes.
var mixedPaths = [][]int{{0}, {0, 4, 1}, {0, 4, 2}, {0, 3}, {0, 4}, {0, 4, 1, 5}, {0, 4, 1, 6}, {7}, {7, 8}, {9}}

// wrongLists are documents that aren't right, but otherwise as mixed is.
func wrongLists() [][]api.Node {
	out := [][]api.Node{nil, {}, mixed()[1:], mixed()[:6]}
	at := func(id int, change func(n *api.Node)) {
		l := mixed()
		change(&l[id])
		out = append(out, l)
	}
	at(0, func(n *api.Node) { *n = api.Node{Parent: -1} })
	at(0, func(n *api.Node) { n.Text = "x" })
	at(0, func(n *api.Node) { n.Parent = 4 })
	at(0, func(n *api.Node) { n.Parent = 0 })
	at(0, func(n *api.Node) { n.Parent = 7 })
	at(0, func(n *api.Node) { n.Parent = -2 })
	at(0, func(n *api.Node) { n.Kids = n.Kids[:1] })
	at(0, func(n *api.Node) { n.Kids = []int{4, 3, 4} })
	at(4, func(n *api.Node) { n.Kids[0] = 99 })
	at(4, func(n *api.Node) { n.Kids[0] = -1 })
	at(4, func(n *api.Node) { n.Parent = 6 })
	at(6, func(n *api.Node) { n.Parent = 77 })
	at(6, func(n *api.Node) { n.Parent = 6 })
	at(6, func(n *api.Node) { n.Parent = -1 })
	at(6, func(n *api.Node) { n.Parent = 4 })
	at(6, func(n *api.Node) { n.Name = "INPUT" })
	at(6, func(n *api.Node) { n.Attrs = []api.Attr{{Name: "a"}, {Name: "a"}} })
	at(3, func(n *api.Node) { n.Attrs = []api.Attr{{Name: "a", Value: strings.Repeat("x", api.MaxText+1)}} })
	at(5, func(n *api.Node) { n.Kids = []int{6} })
	at(9, func(n *api.Node) { n.Text = strings.Repeat("x", api.MaxText+1) })
	ring := mixed() // two that stand within each other
	ring[7].Parent, ring[8].Kids = 8, []int{7}
	long := mixed()
	for len(long) <= api.MaxNodes {
		long = append(long, node("input", -1))
	}
	return append(out, ring, long)
}

// everywhere is, for each kind of event, and for each node in turn, three rounds of one listener with Capture and one without, both told apart by their places alone.
func everywhere(nodes int) []api.Listener {
	var all []api.Listener
	for range 3 {
		for _, kind := range slices.Sorted(maps.Keys(kindsOfEvents)) {
			for id := range nodes {
				all = append(all, api.Listener{Node: id, Type: kind, Capture: true}, api.Listener{Node: id, Type: kind})
			}
		}
	}
	return all
}

func TestP23_1Mixed(t *testing.T) {
	for id, want := range mixedPaths {
		if got := Path(mixed(), id); !slices.Equal(got, want) {
			t.Errorf("the path to %d is %v, not %v", id, got, want)
		}
	}
	if got := Path([]api.Node{node("form", -1)}, 0); !slices.Equal(got, []int{0}) {
		t.Errorf("the path to the only node is %v", got)
	}
}

// TestP23_1Wrong holds that nothing is nil, and that Calls has nothing either, whoever listens.
func TestP23_1Wrong(t *testing.T) {
	all := everywhere(12)
	for _, id := range append(noNodes, len(mixed())) {
		if got := Path(mixed(), id); got != nil {
			t.Errorf("the path to %d, which isn't there, is %v", id, got)
		}
		if got := Calls(mixed(), append(all, api.Listener{Node: id, Type: "click"}), id, "click", true); got != nil {
			t.Errorf("the calls at %d, which isn't there, are %v", id, got)
		}
	}
	for i, l := range wrongLists() {
		for _, id := range append(noNodes, 0, 1, 4, 5, 6, 7, 8, 9, len(l)-1, len(l)) {
			path, calls := Path(l, id), Calls(l, all, id, "click", true)
			if path != nil || calls != nil {
				t.Errorf("wrong document %d: the path to %d is %v, the calls are %v", i, id, path, calls)
			}
		}
	}
}

// check holds the calls for click at node 6 of mixed.
func check(t *testing.T, why string, all []api.Listener, bubbles bool, want ...api.Call) {
	t.Helper()
	if got := Calls(mixed(), all, 6, "click", bubbles); !slices.Equal(got, want) || len(want) == 0 && got != nil {
		t.Errorf("%s: the calls are %v, not %v", why, got, want)
	}
}

// TestP23_2Where has one listener alone, at each node, with and without Capture.
func TestP23_2Where(t *testing.T) {
	phases := map[int][2]int{0: {3, 1}, 4: {3, 1}, 1: {3, 1}, 6: {2, 2}}
	for _, id := range append(noNodes, 0, 1, 2, 3, 4, 5, 6, 7, 8, 9, 10) {
		var without, with []api.Call
		if p, ok := phases[id]; ok {
			without, with = []api.Call{{Node: id, Phase: p[0]}}, []api.Call{{Node: id, Phase: p[1]}}
		}
		why := "at " + strconv.Itoa(id)
		check(t, why, []api.Listener{{Node: id, Type: "click"}}, true, without...)
		check(t, why+", Capture", []api.Listener{{Node: id, Type: "click", Capture: true}}, true, with...)
		check(t, why+", Capture, no bubbles", []api.Listener{{Node: id, Type: "click", Capture: true}}, false, with...)
		if id != 6 {
			without = nil
		}
		check(t, why+", no bubbles", []api.Listener{{Node: id, Type: "click"}}, false, without...)
	}
}

// TestP23_2Order has several listeners at each node, of which those that are called last are told first.
func TestP23_2Order(t *testing.T) {
	at := func(id int, capture bool) api.Listener {
		return api.Listener{Node: id, Type: "click", Capture: capture, Acts: []api.Act{{Kind: api.AStop}, {Kind: api.ANow}}}
	}
	turned := []api.Listener{
		at(0, false), at(4, false), at(1, false), at(6, false), at(6, true), at(1, true), at(4, true), at(0, true),
		at(0, false), at(4, false), at(1, false), at(6, false), at(6, true), at(1, true), at(4, true), at(0, true),
	}
	want := []api.Call{
		{Listener: 7, Node: 0, Phase: 1}, {Listener: 15, Node: 0, Phase: 1},
		{Listener: 6, Node: 4, Phase: 1}, {Listener: 14, Node: 4, Phase: 1},
		{Listener: 5, Node: 1, Phase: 1}, {Listener: 13, Node: 1, Phase: 1},
		{Listener: 4, Node: 6, Phase: 2}, {Listener: 12, Node: 6, Phase: 2},
		{Listener: 3, Node: 6, Phase: 2}, {Listener: 11, Node: 6, Phase: 2},
		{Listener: 2, Node: 1, Phase: 3}, {Listener: 10, Node: 1, Phase: 3},
		{Listener: 1, Node: 4, Phase: 3}, {Listener: 9, Node: 4, Phase: 3},
		{Listener: 0, Node: 0, Phase: 3}, {Listener: 8, Node: 0, Phase: 3},
	}
	check(t, "turned", turned, true, want...)
	check(t, "turned, no bubbles", turned, false, want[:10]...)
	between := []api.Listener{at(6, false), at(6, true), at(6, false), at(6, true), at(6, true)}
	check(t, "at the target, mixed", between, true, []api.Call{{Listener: 1, Node: 6, Phase: 2}, {Listener: 3, Node: 6, Phase: 2}, {Listener: 4, Node: 6, Phase: 2}, {Listener: 0, Node: 6, Phase: 2}, {Listener: 2, Node: 6, Phase: 2}}...)
	alike := slices.Repeat([]api.Listener{at(4, false)}, 3)
	check(t, "alike", alike, true, []api.Call{{Listener: 0, Node: 4, Phase: 3}, {Listener: 1, Node: 4, Phase: 3}, {Listener: 2, Node: 4, Phase: 3}}...)
	check(t, "nobody", nil, true)
	check(t, "an empty list", []api.Listener{}, true)
}

// TestP23_2Top asks of targets that are not within any node: nothing is called going down or up.
func TestP23_2Top(t *testing.T) {
	for _, id := range []int{0, 7, 9} {
		all := []api.Listener{{Node: id, Type: "reset"}, {Node: id, Type: "reset", Capture: true}, {Node: 4, Type: "reset"}, {Node: 8, Type: "reset", Capture: true}}
		for _, bubbles := range []bool{true, false} {
			if got := Calls(mixed(), all, id, "reset", bubbles); !slices.Equal(got, []api.Call{{Listener: 1, Node: id, Phase: 2}, {Listener: 0, Node: id, Phase: 2}}) {
				t.Errorf("at %d, %v: %v", id, bubbles, got)
			}
		}
	}
}

// TestP23_2Types has types that are another one's beginning, or its end, or that of other capitals: they are held against each other byte by byte, and any text may be one.
func TestP23_2Types(t *testing.T) {
	types := []string{"", "click", "clic", "click ", " click", "Click", "CLICK", "dblclick", "clicks", "x", "\xff", "\xef\xbf\xbd", "é", "e\u0301", "\x00", strings.Repeat("a", 5000), strings.Repeat("a", 5001)}
	var all []api.Listener
	for _, kind := range types {
		all = append(all, api.Listener{Node: 6, Type: kind})
	}
	for i, kind := range types {
		if got := Calls(mixed(), all, 6, kind, true); !slices.Equal(got, []api.Call{{Listener: i, Node: 6, Phase: 2}}) {
			t.Errorf("of %.20q: %v", kind, got)
		}
	}
	for _, kind := range []string{"input", "c", "X", "\xfe", "a"} {
		if got := Calls(mixed(), all, 6, kind, true); got != nil {
			t.Errorf("of %q: %v", kind, got)
		}
	}
}

// TestP23_2Bubbles holds that it is bubbles that tells whether an event goes up, not its kind.
func TestP23_2Bubbles(t *testing.T) {
	for _, kind := range []string{"click", "invalid", "submit", "other"} {
		all := []api.Listener{{Node: 4, Type: kind}, {Node: 0, Type: kind, Capture: true}}
		for bubbles, want := range map[bool][]api.Call{true: {{Listener: 1, Node: 0, Phase: 1}, {Listener: 0, Node: 4, Phase: 3}}, false: {{Listener: 1, Node: 0, Phase: 1}}} {
			if got := Calls(mixed(), all, 2, kind, bubbles); !slices.Equal(got, want) {
				t.Errorf("%s, %v: %v, not %v", kind, bubbles, got, want)
			}
		}
	}
}

func TestP23_3(t *testing.T) {
	for kind, want := range kindsOfEvents {
		if got := [2]bool{Bubbles(kind), Cancels(kind)}; got != want {
			t.Errorf("%s is %v, not %v", kind, got, want)
		}
		others := []string{strings.ToUpper(kind), strings.ToUpper(kind[:1]) + kind[1:], kind + " ", " " + kind, kind + "s", kind[1:], kind[:len(kind)-1], "on" + kind, kind + "\x00", kind + kind, kind + ",click"}
		for _, other := range others {
			if Bubbles(other) || Cancels(other) {
				t.Errorf("%q bubbles or cancels", other)
			}
		}
	}
	for _, kind := range []string{"", "x", "focus", "blur", "keydown", "dblclick", "load", "toggle", "beforeinput", "select", "event", "\xff", strings.Repeat("click", 1000)} {
		if Bubbles(kind) || Cancels(kind) {
			t.Errorf("%.20q bubbles or cancels", kind)
		}
	}
}

// TestP23_4 holds that each listener of the type at a node of the path is called once, but those without Capture above the target if the event doesn't go up, and no other.
func TestP23_4(t *testing.T) {
	all := everywhere(len(mixed()))
	for target, path := range mixedPaths {
		for kind := range kindsOfEvents {
			for _, bubbles := range []bool{true, false} {
				times := make([]int, len(all))
				for _, c := range Calls(mixed(), all, target, kind, bubbles) {
					times[c.Listener]++
					if all[c.Listener].Node != c.Node {
						t.Errorf("listener %d is called at %d", c.Listener, c.Node)
					}
				}
				for i, one := range all {
					want := 0
					if one.Type == kind && slices.Contains(path, one.Node) && (bubbles || one.Capture || one.Node == target) {
						want = 1
					}
					if times[i] != want {
						t.Fatalf("%s at %d, %v: %+v is called %d times, not %d", kind, target, bubbles, one, times[i], want)
					}
				}
			}
		}
	}
}

func TestExamples(t *testing.T) {
	l := []api.Node{node("form", -1, 1), node("input", 0)}
	if got := Calls(l, []api.Listener{{Node: 0, Type: "click"}}, 1, "click", true); !slices.Equal(got, []api.Call{{Listener: 0, Node: 0, Phase: 3}}) {
		t.Errorf("without Capture: %v", got)
	}
	if got := Calls(l, []api.Listener{{Node: 0, Type: "click", Capture: true}}, 1, "click", true); !slices.Equal(got, []api.Call{{Listener: 0, Node: 0, Phase: 1}}) {
		t.Errorf("with Capture: %v", got)
	}
}

// slowPath is all nodes in whose order the target is: the more is within one, the further up it stands.
func slowPath(l []api.Node, target int) []int {
	var path []int
	for id := range l {
		if slices.Contains(tree.Order(l, id), target) {
			path = append(path, id)
		}
	}
	slices.SortFunc(path, func(a, b int) int { return len(tree.Order(l, b)) - len(tree.Order(l, a)) })
	return path
}

// slowCalls goes by the chapter's numbers, one behind the other, each time through all.
func slowCalls(l []api.Node, all []api.Listener, target int, kind string, bubbles bool) []api.Call {
	var calls []api.Call
	add := func(id, phase int, capture bool) {
		for i, one := range all {
			if one.Type == kind && one.Node == id && one.Capture == capture {
				calls = append(calls, api.Call{Listener: i, Node: id, Phase: phase})
			}
		}
	}
	path := slowPath(l, target)
	if len(path) == 0 {
		return nil
	}
	above := path[:len(path)-1]
	for _, id := range above { // 1
		add(id, 1, true)
	}
	add(target, 2, true) // 2
	add(target, 2, false)
	for i := len(above) - 1; i >= 0 && bubbles; i-- { // 3
		add(above[i], 3, false)
	}
	return calls
}

// drawList puts nodes into one another in any way, by layer 10, so that their numbers don't stand in order, and some stand apart.
func drawList(r *rand.Rand) []api.Node {
	l := []api.Node{node("html", -1)}
	for range r.Intn(12) {
		l, _, _ = tree.Add(l, []string{"form", "div", "input", ""}[r.Intn(4)], "")
	}
	for range 3 * len(l) {
		if next, e := tree.Insert(l, r.Intn(len(l)), r.Intn(len(l)), -1); e == api.OK {
			l = next
		}
	}
	return l
}

// drawListeners draws of nodes that are there, and of a few that aren't.
func drawListeners(r *rand.Rand, nodes int) []api.Listener {
	var all []api.Listener
	for range r.Intn(40) {
		all = append(all, api.Listener{Node: r.Intn(nodes+4) - 2, Type: []string{"click", "click", "invalid", ""}[r.Intn(4)], Capture: r.Intn(2) == 0})
	}
	return all
}

// TestP23_2Drawn holds both calls against the chapter's words for each node of drawn documents, and sees that each phase comes by, far up too.
func TestP23_2Drawn(t *testing.T) {
	r := rand.New(rand.NewSource(23))
	met := map[string]int{}
	for range 2000 {
		l := drawList(r)
		all := drawListeners(r, len(l))
		for id := -1; id <= len(l); id++ {
			path, want := Path(l, id), slowPath(l, id)
			if !slices.Equal(path, want) {
				t.Fatalf("the path to %d of %+v is %v, not %v", id, l, path, want)
			}
			for _, kind := range []string{"click", "invalid", "", "none"} {
				for _, bubbles := range []bool{true, false} {
					got, want := Calls(l, all, id, kind, bubbles), slowCalls(l, all, id, kind, bubbles)
					if !slices.Equal(got, want) {
						t.Fatalf("the calls of %q at %d of %+v by %+v, %v, are %v, not %v", kind, id, l, all, bubbles, got, want)
					}
					for _, c := range got {
						met["phase "+strconv.Itoa(c.Phase)]++
					}
				}
			}
			met["path of "+strconv.Itoa(min(len(path), 5))]++
		}
	}
	for _, s := range []string{"phase 1", "phase 2", "phase 3", "path of 0", "path of 1", "path of 2", "path of 3", "path of 4", "path of 5"} {
		if met[s] < 500 {
			t.Errorf("only %d times a %s", met[s], s)
		}
	}
}

// deepest is as many nodes as there may be, each within the one whose number is one more; but node 0, which leads to all.
func deepest() []api.Node {
	l := []api.Node{node("html", -1, api.MaxNodes-1)}
	for id := 1; id < api.MaxNodes; id++ {
		l = append(l, node("div", (id+1)%api.MaxNodes, id-1))
	}
	l[1].Kids = nil
	return l
}

// TestR1Most has many listeners at each of as many nodes as there may be, one within the other.
func TestR1Most(t *testing.T) {
	l := deepest()
	path := []int{0}
	for id := api.MaxNodes - 1; id > 0; id-- {
		path = append(path, id)
	}
	if got := Path(l, 1); !slices.Equal(got, path) {
		t.Fatalf("the path to the deepest is %v", got)
	}
	all := make([]api.Listener, 1000*api.MaxNodes)
	for i := range all {
		all[i] = api.Listener{Node: i % api.MaxNodes, Type: "click", Capture: i%1000 < 500}
	}
	calls := Calls(l, all, 1, "click", true)
	if len(calls) != len(all) {
		t.Fatalf("of %d listeners %d are called", len(all), len(calls))
	}
	for i, c := range calls[1:] {
		ahead := calls[i]
		if c.Phase < ahead.Phase || c.Phase == ahead.Phase && c.Node == ahead.Node && all[c.Listener].Capture == all[ahead.Listener].Capture && c.Listener <= ahead.Listener {
			t.Fatalf("%v is called behind %v", c, ahead)
		}
	}
	if got := Calls(l, all, 1, "submit", true); got != nil {
		t.Errorf("of another type %d are called", len(got))
	}
}

// roomy is a copy of list, with spare room behind it that is filled by more.
func roomy[T any](list []T, more ...T) []T {
	return append(slices.Clone(list), more...)[:len(list)]
}

// roomyArguments are mixed, and listeners at its nodes, with spare room behind each of their lists.
func roomyArguments() ([]api.Node, []api.Listener) {
	l := mixed()
	for i := range l {
		l[i].Kids = roomy(l[i].Kids, 77, 78)
		l[i].Attrs = roomy([]api.Attr(nil), api.Attr{Name: "spare"})
	}
	all := everywhere(len(l))
	for i := range all {
		all[i].Acts = roomy([]api.Act{{Kind: api.AStop}}, api.Act{Kind: api.ANow})
	}
	return roomy(l, api.Node{Name: "spare", Parent: 6}), roomy(all, api.Listener{Node: 6, Type: "click"}, api.Listener{Node: 0, Type: "click", Capture: true})
}

// wholly is both up to the ends of their spare rooms.
func wholly(l []api.Node, all []api.Listener) ([]api.Node, []api.Listener) {
	l, all = slices.Clone(l[:cap(l)]), slices.Clone(all[:cap(all)])
	for i := range l {
		l[i].Kids, l[i].Attrs = slices.Clone(l[i].Kids[:cap(l[i].Kids)]), slices.Clone(l[i].Attrs[:cap(l[i].Attrs)])
	}
	for i := range all {
		all[i].Acts = slices.Clone(all[i].Acts[:cap(all[i].Acts)])
	}
	return l, all
}

// TestR4 writes over an answer, spare room included, and holds that neither another answer nor an argument has changed.
func TestR4(t *testing.T) {
	l, all := roomyArguments()
	wasL, wasAll := wholly(l, all)
	for id := range l {
		for _, bubbles := range []bool{true, false} {
			path, calls := Path(l, id), Calls(l, all, id, "click", bubbles)
			onePath, oneCalls := Path(l, id), Calls(l, all, id, "click", bubbles)
			for i := range onePath[:cap(onePath)] {
				onePath[:cap(onePath)][i] = 1000
			}
			for i := range oneCalls[:cap(oneCalls)] {
				oneCalls[:cap(oneCalls)][i] = api.Call{Listener: 1000}
			}
			if !slices.Equal(path, slowPath(l, id)) || !slices.Equal(calls, slowCalls(l, all, id, "click", bubbles)) {
				t.Errorf("the path to %d is %v now, the calls are %v", id, path, calls)
			}
		}
	}
	nowL, nowAll := wholly(l, all)
	if !reflect.DeepEqual(nowL, wasL) || !reflect.DeepEqual(nowAll, wasAll) {
		t.Error("what was handed in is changed")
	}
}
