package tree

import (
	"math"
	"reflect"
	"regexp"
	"slices"
	"strings"
	"testing"
	"unsafe"

	"counterfoil/api"
)

// noNodes are numbers that no document's nodes have.
var noNodes = []int{-1, -2, -400, api.MaxNodes, api.MaxNodes + 1, 1 << 31, -1 << 31, 1 << 32, 1<<32 + 1, math.MaxInt, math.MaxInt - 1, math.MinInt, math.MinInt + 1}

var (
	nameShape = regexp.MustCompile(`\A[a-z][a-z0-9-]{0,19}\z`)
	longText  = strings.Repeat("a", api.MaxText)
	longName  = "a" + strings.Repeat("-", 19)
)

// roomy is a copy of list, with spare room behind it that is filled by more.
func roomy[T any](list []T, more ...T) []T {
	return append(slices.Clone(list), more...)[:len(list)]
}

// copiedRoomy is a copy of l, in which each list, and l itself, has spare room that isn't empty.
func copiedRoomy(l []api.Node) []api.Node {
	own := roomy(l, api.Node{Name: "spare", Parent: 7, Kids: []int{7}}, api.Node{Text: "spare"})
	for i := range own {
		own[i].Attrs = roomy(l[i].Attrs, api.Attr{Name: "spare", Value: "spare"}, api.Attr{Name: "room"})
		own[i].Kids = roomy(l[i].Kids, 77, 78)
	}
	return own
}

// wholly is l with all of its lists up to the ends of their spare rooms.
func wholly(l []api.Node) []api.Node {
	all := slices.Clone(l[:cap(l)])
	for i := range all {
		all[i].Attrs = slices.Clone(all[i].Attrs[:cap(all[i].Attrs)])
		all[i].Kids = slices.Clone(all[i].Kids[:cap(all[i].Kids)])
	}
	return all
}

// plain is l with nil for lists of nothing.
func plain(l []api.Node) []api.Node {
	own := slices.Clone(l)
	for i := range own {
		own[i].Attrs = append([]api.Attr(nil), l[i].Attrs...)
		own[i].Kids = append([]int(nil), l[i].Kids...)
	}
	return own
}

func same(a, b []api.Node) bool {
	return len(a) == len(b) && (len(a) == 0 || reflect.DeepEqual(plain(a), plain(b)))
}

// scribble writes over all of l, spare rooms included, and tells whether each place kept what was written there: else two lists share it.
func scribble(l []api.Node) bool {
	all := l[:cap(l)]
	mark, kept := 1000, true
	for i := range all {
		attrs, kids := all[i].Attrs[:cap(all[i].Attrs)], all[i].Kids[:cap(all[i].Kids)]
		for j := range attrs {
			kept = kept && attrs[j].Name != "mark"
			attrs[j] = api.Attr{Name: "mark"}
		}
		for j := range kids {
			kept = kept && kids[j] < 1000
			mark++
			kids[j] = mark
		}
	}
	for i := range all {
		all[i] = api.Node{Name: "mark", Parent: -7}
	}
	return kept
}

// within tells whether part lies in the memory of whole.
func within(part, whole string) bool {
	if part == "" || whole == "" {
		return false
	}
	at, from := uintptr(unsafe.Pointer(unsafe.StringData(part))), uintptr(unsafe.Pointer(unsafe.StringData(whole)))
	return at >= from && at < from+uintptr(len(whole))
}

// texts are all texts of l.
func texts(l []api.Node) []string {
	var all []string
	for _, n := range l {
		all = append(all, n.Name, n.Text)
		for _, a := range n.Attrs {
			all = append(all, a.Name, a.Value)
		}
	}
	return all
}

// change makes one of the calls that answer a document, and looks at what holds of all of them: what was handed in is as it was, the answer is right and shares no memory, and beside an error there is none.
func change(t *testing.T, l []api.Node, call func(l []api.Node) ([]api.Node, api.Errno)) ([]api.Node, api.Errno) {
	t.Helper()
	given := copiedRoomy(l)
	ahead := wholly(given)
	answer, e := call(given)
	again, f := call(given)
	if e != f || !same(answer, again) {
		t.Fatalf("the same call answers %v, then %v", e, f)
	}
	if !reflect.DeepEqual(wholly(given), ahead) {
		t.Fatalf("what was handed in was changed: %+v", given)
	}
	if e != api.OK {
		if len(answer) != 0 {
			t.Fatalf("beside error %d there is %+v", e, answer)
		}
		return nil, e
	}
	if !Right(answer) || !slowRight(answer) {
		t.Fatalf("the answer isn't right: %+v", answer)
	}
	kept := plain(answer)
	if !scribble(answer) {
		t.Fatalf("two lists of the answer share memory: %+v", kept)
	}
	if !reflect.DeepEqual(wholly(given), ahead) || !same(again, kept) {
		t.Fatalf("the answer shares memory: %+v", kept)
	}
	return kept, api.OK
}

func add(t *testing.T, l []api.Node, name, text string) ([]api.Node, int, api.Errno) {
	t.Helper()
	var id int
	answer, e := change(t, l, func(l []api.Node) ([]api.Node, api.Errno) {
		var answer []api.Node
		var e api.Errno
		answer, id, e = Add(l, name, text)
		return answer, e
	})
	return answer, id, e
}

func insert(t *testing.T, l []api.Node, parent, child, before int) ([]api.Node, api.Errno) {
	t.Helper()
	return change(t, l, func(l []api.Node) ([]api.Node, api.Errno) { return Insert(l, parent, child, before) })
}

func remove(t *testing.T, l []api.Node, id int) ([]api.Node, api.Errno) {
	t.Helper()
	return change(t, l, func(l []api.Node) ([]api.Node, api.Errno) { return Remove(l, id) })
}

func set(t *testing.T, l []api.Node, id int, name, value string) ([]api.Node, api.Errno) {
	t.Helper()
	return change(t, l, func(l []api.Node) ([]api.Node, api.Errno) { return Set(l, id, name, value) })
}

func unset(t *testing.T, l []api.Node, id int, name string) ([]api.Node, api.Errno) {
	t.Helper()
	return change(t, l, func(l []api.Node) ([]api.Node, api.Errno) { return Unset(l, id, name) })
}

// slowWithin tells by parents alone whether the node is within another one.
func slowWithin(l []api.Node, id, other int) bool {
	for range l {
		if id = l[id].Parent; id < 0 || id >= len(l) {
			return false
		}
		if id == other {
			return true
		}
	}
	return false
}

// slowRight is the chapter's words, one by one.
func slowRight(l []api.Node) bool {
	if len(l) < 1 || len(l) > 400 || l[0].Name == "" || l[0].Parent != -1 {
		return false
	}
	for i, n := range l {
		var kids []int
		for k := range l {
			if l[k].Parent == i {
				kids = append(kids, k)
			}
		}
		told := slices.Clone(n.Kids)
		slices.Sort(told)
		if !slices.Equal(told, kids) || n.Parent < -1 || n.Parent >= len(l) || n.Parent == i || slowWithin(l, i, i) || !slowFormed(n) {
			return false
		}
	}
	return true
}

func slowFormed(n api.Node) bool {
	if n.Name == "" {
		return len(n.Attrs) == 0 && len(n.Kids) == 0 && len(n.Text) <= 4000
	}
	names := map[string]int{}
	for _, a := range n.Attrs {
		names[a.Name]++
		if !nameShape.MatchString(a.Name) || len(a.Value) > 4000 || names[a.Name] > 1 {
			return false
		}
	}
	return nameShape.MatchString(n.Name) && n.Text == "" && len(n.Attrs) <= 40
}

// page is a document with attributes, texts, and two nodes that aren't connected:
//
//	0 html: 1 form: (3 text, 2 input, 4 div: (5 text, 6 b)), 7 p
//	8 div: 9 i
//	10 text
func page() []api.Node {
	return []api.Node{
		{Name: "html", Parent: -1, Kids: []int{1, 7}},
		{Name: "form", Parent: 0, Kids: []int{3, 2, 4}, Attrs: []api.Attr{{Name: "id", Value: "f"}, {Name: "method", Value: "post"}, {Name: "action"}}},
		{Name: "input", Parent: 1, Attrs: []api.Attr{{Name: "name", Value: "f"}, {Name: "id", Value: "x"}}},
		{Text: "abc", Parent: 1},
		{Name: "div", Parent: 1, Kids: []int{5, 6}, Attrs: []api.Attr{{Name: "id"}}},
		{Text: " d\n", Parent: 4},
		{Name: "b", Parent: 4, Attrs: []api.Attr{{Name: "id", Value: "y"}}},
		{Name: "p", Parent: 0, Attrs: []api.Attr{{Name: "id", Value: "x"}}},
		{Name: "div", Parent: -1, Kids: []int{9}, Attrs: []api.Attr{{Name: "id", Value: "z"}}},
		{Name: "i", Parent: 8, Attrs: []api.Attr{{Name: "id", Value: "y"}}},
		{Text: "lone", Parent: -1},
	}
}

// one is a document of a single element.
func one() []api.Node { return []api.Node{{Name: "html", Parent: -1}} }

// chain is a document of so many elements, each the child of the one ahead.
func chain(count int) []api.Node {
	l := make([]api.Node, count)
	for i := range l {
		l[i] = api.Node{Name: "a", Parent: i - 1}
		if i+1 < count {
			l[i].Kids = []int{i + 1}
		}
	}
	return l
}

// flat is a document of so many nodes, all but the first one without a parent, if parent is -1, or children of it.
func flat(count, parent int) []api.Node {
	l := []api.Node{{Name: "a", Parent: -1}}
	for i := 1; i < count; i++ {
		l = append(l, api.Node{Text: "t", Parent: parent})
		if parent == 0 {
			l[0].Kids = append(l[0].Kids, i)
		}
	}
	return l
}

// attrs are so many of them, of names that are alike but for their ends.
func attrs(count int) []api.Attr {
	var all []api.Attr
	for i := range count {
		all = append(all, api.Attr{Name: "a" + strings.Repeat("b", i%20/2) + string(rune('a'+i/20)) + string(rune('a'+i%20)), Value: "v"})
	}
	return all
}

// wrongPages are documents that aren't right, each by one thing.
func wrongPages() map[string][]api.Node {
	el := func(parent int, kids ...int) api.Node { return api.Node{Name: "a", Parent: parent, Kids: kids} }
	text := func(parent int) api.Node { return api.Node{Text: "t", Parent: parent} }
	with := func(n api.Node, all ...api.Attr) api.Node { n.Attrs = all; return n }
	return map[string][]api.Node{
		"nil":                       nil,
		"empty":                     {},
		"a text first":              {text(-1)},
		"an empty text first":       {{Parent: -1}},
		"a parent of the first":     {el(1), el(-1, 0)},
		"the first within itself":   {el(0, 0)},
		"the first's parent 0":      {el(0)},
		"the first's parent -2":     {el(-2)},
		"parent -2":                 {el(-1), el(-2)},
		"parent beyond":             {el(-1), el(2)},
		"parent far beyond":         {el(-1), el(math.MaxInt)},
		"parent far below":          {el(-1), el(math.MinInt)},
		"not told as a child":       {el(-1), el(0)},
		"told twice":                {el(-1, 1, 1), el(0)},
		"told by another":           {el(-1, 1), el(-1)},
		"told by two":               {el(-1, 1, 2), el(0, 2), el(0)},
		"told by the wrong one":     {el(-1, 1, 2), el(0), el(1)},
		"a child beyond":            {el(-1, 1)},
		"a child far beyond":        {el(-1, math.MaxInt)},
		"a child -1":                {el(-1, -1)},
		"a child far below":         {el(-1, math.MinInt)},
		"a child that is 0":         {el(-1), el(-1, 0)},
		"within itself":             {el(-1), el(1, 1)},
		"within one another":        {el(-1), el(2, 2), el(1, 1)},
		"three within one another":  {el(-1), el(3, 2), el(1, 3), el(2, 1)},
		"below a ring":              {el(-1), el(2, 2, 3), el(1, 1), el(1)},
		"a text's child":            {el(-1, 1), {Text: "t", Parent: 0, Kids: []int{2}}, el(1)},
		"a text's parent a text":    {el(-1, 1), text(0), text(1)},
		"a text's attribute":        {el(-1), with(text(-1), api.Attr{Name: "a"})},
		"a text too long":           {el(-1), {Text: longText + "a", Parent: -1}},
		"an element's text":         {{Name: "a", Text: "t", Parent: -1}},
		"a later element's text":    {el(-1), {Name: "a", Text: "t", Parent: -1}},
		"a capital":                 {{Name: "A", Parent: -1}},
		"a later capital":           {el(-1), {Name: "aB", Parent: -1}},
		"a name too long":           {{Name: longName + "a", Parent: -1}},
		"an attribute's capital":    {with(el(-1), api.Attr{Name: "A"})},
		"an attribute without name": {with(el(-1), api.Attr{Value: "v"})},
		"an attribute's long name":  {with(el(-1), api.Attr{Name: longName + "a"})},
		"an attribute's long value": {with(el(-1), api.Attr{Name: "a", Value: longText + "a"})},
		"an attribute twice":        {with(el(-1), api.Attr{Name: "a", Value: "1"}, api.Attr{Name: "b"}, api.Attr{Name: "a", Value: "2"})},
		"an attribute's twin":       {el(-1), with(el(-1), api.Attr{Name: "a"}, api.Attr{Name: "a"})},
		"too many attributes":       {with(el(-1), attrs(41)...)},
		"very many attributes":      {with(el(-1), slices.Repeat(attrs(40), 1<<15)...)},
		"too many nodes":            flat(401, -1),
		"too many children":         flat(401, 0),
		"too deep a chain":          chain(401),
		"very many nodes":           flat(1<<20, 0),
		"very many children":        {el(-1, slices.Repeat([]int{1}, 1<<20)...), el(0)},
	}
}

func TestP10_1Right(t *testing.T) {
	full := flat(400, 0)
	full[0].Attrs = attrs(40)
	full[0].Attrs[3].Value = longText
	full[0].Attrs[39].Name = longName
	full[399].Text = longText
	for what, l := range map[string][]api.Node{
		"one": one(), "page": page(), "all that there is room for": full,
		"400 deep": chain(400), "400 without parents": flat(400, -1),
		"empty lists":               {{Name: "a", Parent: -1, Attrs: []api.Attr{}, Kids: []int{}}, {Parent: -1, Attrs: []api.Attr{}, Kids: []int{}}},
		"an empty text":             {{Name: "a", Parent: -1, Kids: []int{1}}, {Parent: 0}},
		"a parent behind its child": {{Name: "a", Parent: -1, Kids: []int{2}}, {Name: "b", Parent: 2}, {Name: "c", Parent: 0, Kids: []int{1}}},
		"falling children":          {{Name: "a", Parent: -1, Kids: []int{2, 1}}, {Name: "b", Parent: 0}, {Name: "c", Parent: 0}},
		"one id twice":              {{Name: "a", Parent: -1, Attrs: []api.Attr{{Name: "id", Value: "x"}}}, {Name: "a", Parent: -1, Attrs: []api.Attr{{Name: "id", Value: "x"}}}},
		"any bytes":                 {{Name: "a", Parent: -1, Attrs: []api.Attr{{Name: "a", Value: "\xff\x00"}}}, {Text: "\xff\x00", Parent: -1}},
	} {
		if !Right(l) || !slowRight(l) {
			t.Errorf("%s: it isn't right", what)
		}
	}
	for what, l := range wrongPages() {
		if Right(l) {
			t.Errorf("%s: it is right", what)
		}
	}
}

// Each byte, at each place of a name, takes just what the chapter leaves to it.
func TestP10_1Names(t *testing.T) {
	names := []string{"", "a", "z", "a0", "a9", "a-", "a--", "h1", "input", "-a", "0a", "1", "-", " a", "a ", "a_b", "a.b", "a:b", "é", "aé", "div\n", "\ndiv", longName, longName + "-", strings.Repeat("z", 20), strings.Repeat("z", 21), strings.Repeat("a", 1<<16)}
	for i := range 256 {
		c := string([]byte{byte(i)})
		names = append(names, c, c+"a", "a"+c, "a"+c+"a", longName[:19]+c, c+longName[:19], longName[:18]+c+"a", longName+c)
	}
	for _, name := range names {
		is := nameShape.MatchString(name)
		if l := []api.Node{{Name: name, Parent: -1}}; Right(l) != is {
			t.Errorf("an element %.30q: Right is %v", name, !is)
		}
		if l := []api.Node{{Name: "a", Parent: -1, Attrs: []api.Attr{{Name: name}}}}; Right(l) != is {
			t.Errorf("an attribute %.30q: Right is %v", name, !is)
		}
		want := api.OK
		if !is {
			want = api.ErrName
		}
		if _, e := set(t, one(), 0, name, "v"); e != want {
			t.Errorf("Set(%.30q) is error %d", name, e)
		}
		if name == "" {
			want = api.OK
		}
		if _, _, e := add(t, one(), name, ""); e != want {
			t.Errorf("Add(%.30q) is error %d", name, e)
		}
	}
}

// lists are all lists of up to most numbers from low to high.
func lists(most, low, high int) [][]int {
	all, last := [][]int{nil}, [][]int{nil}
	for range most {
		var next [][]int
		for _, list := range last {
			for i := low; i <= high; i++ {
				next = append(next, append(slices.Clone(list), i))
			}
		}
		all, last = append(all, next...), next
	}
	return all
}

// All parents and lists of children of up to three nodes, right or not.
func TestP10_1RightOfAll(t *testing.T) {
	rights := 0
	grow := func(count int, kids [][]int, low int) {
		l := make([]api.Node, count)
		var fill func(at int)
		fill = func(at int) {
			if at == count {
				is := Right(l)
				if is != slowRight(l) {
					t.Fatalf("Right(%+v) is %v", l, is)
				}
				if is {
					rights++
				}
				return
			}
			for _, name := range []string{"a", ""} {
				for parent := low; parent <= count; parent++ {
					for _, list := range kids {
						l[at] = api.Node{Name: name, Parent: parent, Kids: list}
						fill(at + 1)
					}
				}
			}
		}
		fill(0)
	}
	grow(1, lists(3, -2, 3), -3)
	grow(2, lists(2, -1, 2), -2)
	grow(3, lists(2, 0, 2), -1)
	if rights < 30 {
		t.Errorf("of all there are only %d that are right", rights)
	}
}

func TestP10_1WrongDocuments(t *testing.T) {
	for what, l := range wrongPages() {
		wrongCalls(t, what, l, 0, 1)
	}
}

func TestP10_1WrongNodes(t *testing.T) {
	for _, id := range append([]int{11, 12}, noNodes...) {
		wrongCalls(t, "page", page(), id, id)
		for _, l := range [][]api.Node{page(), one()} {
			for _, e := range []api.Errno{errorOf(Insert(l, id, 0, -1)), errorOf(Insert(l, 0, id, -1)), errorOf(Insert(l, id, id, id)), errorOf(Insert(l, 0, id, id)), errorOf(Insert(l, id, 0, 3))} {
				if e != api.ErrNode {
					t.Errorf("Insert of %d is error %d", id, e)
				}
			}
		}
	}
}

func errorOf(_ []api.Node, e api.Errno) api.Errno { return e }

// wrongCalls makes all calls but Right on a document that isn't right, or a node that isn't there. Their other arguments would have errors, too.
func wrongCalls(t *testing.T, what string, l []api.Node, id, other int) {
	t.Helper()
	if !Right(l) {
		for _, name := range []string{"a", "", "A"} {
			if m, at, e := Add(l, name, longText+"a"); len(m) != 0 || at != 0 || e != api.ErrNode {
				t.Errorf("%s: Add is %d nodes, %d, error %d", what, len(m), at, e)
			}
		}
		for _, name := range []string{"", "x", "v"} {
			if at := Named(l, name); at != -1 {
				t.Errorf("%s: Named is %d", what, at)
			}
		}
	}
	for call, f := range map[string]func() ([]api.Node, api.Errno){
		"Insert":       func() ([]api.Node, api.Errno) { return Insert(l, id, other, -1) },
		"Insert ahead": func() ([]api.Node, api.Errno) { return Insert(l, other, id, 1) },
		"Remove":       func() ([]api.Node, api.Errno) { return Remove(l, id) },
		"Set":          func() ([]api.Node, api.Errno) { return Set(l, id, "id", "x") },
		"Set wrongly":  func() ([]api.Node, api.Errno) { return Set(l, id, "A", longText+"a") },
		"Unset":        func() ([]api.Node, api.Errno) { return Unset(l, id, "id") },
	} {
		if m, e := f(); len(m) != 0 || e != api.ErrNode {
			t.Errorf("%s, %d: %s is %d nodes, error %d", what, id, call, len(m), e)
		}
	}
	for _, name := range []string{"a", "id", ""} {
		if v, ok := Attr(l, id, name); v != "" || ok {
			t.Errorf("%s, %d: Attr is %.20q, %v", what, id, v, ok)
		}
		if at := Up(l, id, name); at != -1 {
			t.Errorf("%s, %d: Up is %d", what, id, at)
		}
	}
	if list, at, s := Order(l, id), Top(l, id), Text(l, id); len(list) != 0 || at != -1 || s != "" {
		t.Errorf("%s, %d: Order, Top, Text are %v, %d, %.20q", what, id, list, at, s)
	}
}

func TestP10_2Add(t *testing.T) {
	for _, l := range [][]api.Node{one(), page(), flat(399, -1), flat(399, 0), chain(399)} {
		for _, c := range [][2]string{{"a", ""}, {longName, ""}, {"", ""}, {"", "t"}, {"", "\xff\x00"}, {"", longText}} {
			m, id, e := add(t, l, c[0], c[1])
			want := append(slices.Clone(l), api.Node{Name: c[0], Text: c[1], Parent: -1})
			if id != len(l) || e != api.OK || !same(m, want) {
				t.Errorf("Add(%q, %.20q) to %d nodes is %d nodes, %d, error %d", c[0], c[1], len(l), len(m), id, e)
			}
		}
	}
}

func TestP10_2AddWrongly(t *testing.T) {
	long := longText + "a"
	for _, c := range []struct {
		l          []api.Node
		name, text string
		e          api.Errno
	}{
		{one(), "A", "", api.ErrName}, {one(), "a b", "", api.ErrName}, {one(), longName + "a", "", api.ErrName}, {one(), "1", "", api.ErrName}, {one(), " ", "", api.ErrName},
		{one(), "A", "t", api.ErrName}, {one(), "A", long, api.ErrName}, {flat(400, -1), "A", long, api.ErrName}, {flat(400, -1), "-", "", api.ErrName},
		{one(), "", long, api.ErrRange}, {one(), "", strings.Repeat("é", 2001), api.ErrRange}, {one(), "a", "t", api.ErrRange}, {one(), "a", long, api.ErrRange}, {one(), "a", "\x00", api.ErrRange},
		{flat(400, -1), "", long, api.ErrRange}, {flat(400, 0), "a", "t", api.ErrRange},
		{flat(400, -1), "a", "", api.ErrFull}, {flat(400, 0), "", "t", api.ErrFull}, {chain(400), "", "", api.ErrFull},
	} {
		if _, id, e := add(t, c.l, c.name, c.text); id != 0 || e != c.e {
			t.Errorf("Add(%q, %.20q) to %d nodes is %d, error %d", c.name, c.text, len(c.l), id, e)
		}
	}
}

func TestP10_2AddTo400(t *testing.T) {
	l := one()
	for i := 1; i < 400; i++ {
		m, id, e := Add(l, "div", "")
		if e == api.OK {
			m, e = Insert(m, id/2, id, -1)
		}
		if id != i || e != api.OK || !Right(m) {
			t.Fatalf("node %d is %d, error %d", i, id, e)
		}
		l = m
	}
	if _, _, e := Add(l, "div", ""); e != api.ErrFull || len(Order(l, 0)) != 400 {
		t.Errorf("the document has %d nodes; error %d", len(Order(l, 0)), e)
	}
}

// slowInsert is the chapter's words, on lists that are built anew.
func slowInsert(l []api.Node, parent, child, before int) ([]api.Node, api.Errno) {
	there := func(id int) bool { return id >= 0 && id < len(l) }
	if !there(parent) || !there(child) {
		return nil, api.ErrNode
	}
	if l[parent].Name == "" || child == 0 || child == parent || slowWithin(l, parent, child) {
		return nil, api.ErrOrder
	}
	if before != -1 && (!there(before) || l[before].Parent != parent || before == child) {
		return nil, api.ErrNode
	}
	m := slices.Clone(l)
	m[child].Parent = parent
	for i := range m {
		m[i].Kids = nil
		for _, kid := range l[i].Kids {
			if i == parent && kid == before {
				m[i].Kids = append(m[i].Kids, child)
			}
			if kid != child {
				m[i].Kids = append(m[i].Kids, kid)
			}
		}
		if i == parent && before == -1 {
			m[i].Kids = append(m[i].Kids, child)
		}
	}
	return m, api.OK
}

func slowRemove(l []api.Node, id int) ([]api.Node, api.Errno) {
	if id < 0 || id >= len(l) {
		return nil, api.ErrNode
	}
	if l[id].Parent == -1 {
		return nil, api.ErrState
	}
	m := slices.Clone(l)
	m[id].Parent = -1
	for i := range m {
		m[i].Kids = nil
		for _, kid := range l[i].Kids {
			if kid != id {
				m[i].Kids = append(m[i].Kids, kid)
			}
		}
	}
	return m, api.OK
}

// shape tells two documents of the same nodes apart.
func shape(l []api.Node) string {
	var out strings.Builder
	for _, n := range l {
		for _, kid := range n.Kids {
			out.WriteByte(byte('0' + kid))
		}
		out.WriteByte('/')
	}
	return out.String()
}

// reached goes through all documents to which inserting and removing leads from l.
func reached(t *testing.T, l []api.Node, look func(l []api.Node)) int {
	seen := map[string]int{shape(l): 1}
	for work := [][]api.Node{l}; len(work) > 0; work = work[1:] {
		l := work[0]
		look(l)
		try := func(m []api.Node, e api.Errno) {
			if e == api.OK && seen[shape(m)] == 0 {
				seen[shape(m)] = 1
				work = append(work, m)
			}
		}
		for child := -2; child <= len(l); child++ {
			m, e := remove(t, l, child)
			if want, f := slowRemove(l, child); e != f || !same(m, want) {
				t.Fatalf("Remove(%+v, %d) is %+v, error %d", l, child, m, e)
			}
			try(m, e)
			for parent := -2; parent <= len(l); parent++ {
				for before := -2; before <= len(l); before++ {
					m, e := insert(t, l, parent, child, before)
					if want, f := slowInsert(l, parent, child, before); e != f || !same(m, want) {
						t.Fatalf("Insert(%+v, %d, %d, %d) is %+v, error %d", l, parent, child, before, m, e)
					}
					try(m, e)
				}
			}
		}
	}
	return len(seen)
}

func nodes(names ...string) []api.Node {
	var l []api.Node
	for _, name := range names {
		n := api.Node{Name: name, Parent: -1}
		if name == "" {
			n.Text = string(rune('A' + len(l)))
		} else {
			n.Attrs = []api.Attr{{Name: "id", Value: name}}
		}
		l = append(l, n)
	}
	return l
}

// All documents of a few nodes, with all calls on each. How many there are is known: ordered trees of which the nodes are told apart.
func TestP10_3And5OfAll(t *testing.T) {
	for _, c := range []struct {
		names []string
		count int
	}{{[]string{"a"}, 1}, {[]string{"a", "b"}, 2}, {[]string{"a", ""}, 2}, {[]string{"a", "b", "c"}, 9}, {[]string{"a", "b", "b", ""}, 0}, {[]string{"a", "a", "", ""}, 0}, {[]string{"a", "b", "a", "c"}, 0}} {
		count := reached(t, nodes(c.names...), func(l []api.Node) { lookUpAll(t, l) })
		if c.count != 0 && count != c.count {
			t.Errorf("of %q there are %d documents", c.names, count)
		}
	}
}

// lookUpAll holds the calls that change nothing against what parents and children tell.
func lookUpAll(t *testing.T, l []api.Node) {
	t.Helper()
	for id := range l {
		order := Order(l, id)
		if len(order) == 0 || order[0] != id {
			t.Fatalf("Order(%+v, %d) is %v", l, id, order)
		}
		for other := range l {
			if slices.Contains(order, other) != (other == id || slowWithin(l, other, id)) {
				t.Fatalf("Order(%+v, %d) is %v", l, id, order)
			}
		}
		var want []int // what the children have in order, one behind the other
		text, top := l[id].Text, id
		for _, kid := range l[id].Kids {
			want = append(want, Order(l, kid)...)
			if l[kid].Name == "" {
				text += l[kid].Text
			}
		}
		if !slices.Equal(order[1:], want) || Text(l, id) != text {
			t.Fatalf("Order(%+v, %d) is %v, Text is %q", l, id, order, Text(l, id))
		}
		above := map[string]int{}
		for at := l[id].Parent; at != -1; at = l[at].Parent {
			if _, ok := above[l[at].Name]; !ok {
				above[l[at].Name] = at
			}
			top = at
		}
		for _, name := range []string{"a", "b", "c", "", "x"} {
			at, ok := above[name]
			if !ok {
				at = -1
			}
			if up := Up(l, id, name); up != at {
				t.Fatalf("Up(%+v, %d, %q) is %d", l, id, name, up)
			}
		}
		if Top(l, id) != top {
			t.Fatalf("Top(%+v, %d) is %d", l, id, Top(l, id))
		}
	}
	for _, name := range []string{"a", "b", "c", "", "x"} {
		at := slices.IndexFunc(Order(l, 0), func(at int) bool { return name != "" && l[at].Name == name })
		if at >= 0 {
			at = Order(l, 0)[at]
		}
		if got := Named(l, name); got != at {
			t.Fatalf("Named(%+v, %q) is %d", l, name, got)
		}
	}
}

func TestP10_3Insert(t *testing.T) {
	for _, c := range []struct {
		parent, child, before int
		kids                  []int // of parent
	}{
		{1, 8, -1, []int{3, 2, 4, 8}}, {1, 8, 3, []int{8, 3, 2, 4}}, {1, 8, 4, []int{3, 2, 8, 4}}, {1, 10, 2, []int{3, 10, 2, 4}}, {7, 8, -1, []int{8}}, {8, 10, 9, []int{10, 9}},
		{1, 3, -1, []int{2, 4, 3}}, {1, 3, 2, []int{3, 2, 4}}, {1, 3, 4, []int{2, 3, 4}}, {1, 2, 3, []int{2, 3, 4}}, {1, 4, 3, []int{4, 3, 2}}, {1, 4, 2, []int{3, 4, 2}}, {1, 4, -1, []int{3, 2, 4}}, {0, 1, -1, []int{7, 1}}, {0, 7, 1, []int{7, 1}},
		{0, 6, 1, []int{6, 1, 7}}, {0, 5, 7, []int{1, 5, 7}}, {4, 2, 5, []int{2, 5, 6}}, {2, 3, -1, []int{3}}, {2, 4, -1, []int{4}}, {9, 1, -1, []int{1}}, {9, 7, -1, []int{7}}, {6, 10, -1, []int{10}},
	} {
		m, e := insert(t, page(), c.parent, c.child, c.before)
		want, _ := slowInsert(page(), c.parent, c.child, c.before)
		if e != api.OK || !slices.Equal(m[c.parent].Kids, c.kids) || m[c.child].Parent != c.parent || !same(m, want) {
			t.Errorf("Insert(%d, %d, %d) is %+v, error %d", c.parent, c.child, c.before, m, e)
		}
	}
}

func TestP10_3InsertWrongly(t *testing.T) {
	for _, c := range []struct {
		parent, child, before int
		e                     api.Errno
	}{
		{3, 8, -1, api.ErrOrder}, {10, 9, -1, api.ErrOrder}, {5, 10, -1, api.ErrOrder}, {8, 0, -1, api.ErrOrder}, {0, 0, -1, api.ErrOrder}, {1, 1, -1, api.ErrOrder}, {10, 10, -1, api.ErrOrder}, {2, 1, -1, api.ErrOrder}, {6, 1, -1, api.ErrOrder}, {6, 4, -1, api.ErrOrder}, {9, 8, -1, api.ErrOrder}, {1, 0, -1, api.ErrOrder},
		{3, 8, 2, api.ErrOrder}, {8, 0, 99, api.ErrOrder}, {1, 1, 3, api.ErrOrder}, {2, 1, 99, api.ErrOrder}, {0, 0, 1, api.ErrOrder},
		{1, 8, 1, api.ErrNode}, {1, 8, 8, api.ErrNode}, {1, 8, 0, api.ErrNode}, {1, 8, 5, api.ErrNode}, {1, 8, 7, api.ErrNode}, {1, 8, 9, api.ErrNode}, {1, 8, 10, api.ErrNode}, {0, 8, 4, api.ErrNode}, {1, 3, 3, api.ErrNode}, {0, 1, 1, api.ErrNode}, {2, 8, 3, api.ErrNode},
		{11, 1, -1, api.ErrNode}, {1, 11, -1, api.ErrNode}, {-1, 1, -1, api.ErrNode}, {1, -1, -1, api.ErrNode}, {-1, -1, -1, api.ErrNode}, {11, 0, -1, api.ErrNode}, {3, 11, -1, api.ErrNode}, {11, 11, 11, api.ErrNode},
	} {
		if _, e := insert(t, page(), c.parent, c.child, c.before); e != c.e {
			t.Errorf("Insert(%d, %d, %d) is error %d", c.parent, c.child, c.before, e)
		}
	}
	for _, before := range noNodes[1:] {
		if _, e := insert(t, page(), 1, 8, before); e != api.ErrNode {
			t.Errorf("Insert ahead of %d is error %d", before, e)
		}
	}
}

func TestP10_3Remove(t *testing.T) {
	for _, id := range []int{1, 2, 3, 4, 5, 6, 7, 9} {
		m, e := remove(t, page(), id)
		want, _ := slowRemove(page(), id)
		if e != api.OK || !same(m, want) || m[id].Parent != -1 || slices.Contains(Order(m, 0), id) || Top(m, id) != id {
			t.Errorf("Remove(%d) is %+v, error %d", id, m, e)
		}
		if _, e := remove(t, m, id); e != api.ErrState {
			t.Errorf("Remove(%d) once more is error %d", id, e)
		}
	}
	for _, id := range []int{0, 8, 10} {
		if _, e := remove(t, page(), id); e != api.ErrState {
			t.Errorf("Remove(%d) is error %d", id, e)
		}
	}
	for _, id := range append([]int{11}, noNodes...) {
		if _, e := remove(t, page(), id); e != api.ErrNode {
			t.Errorf("Remove(%d) is error %d", id, e)
		}
	}
}

func TestP10_3Deep(t *testing.T) {
	l := chain(400)
	if _, e := insert(t, l, 399, 1, -1); e != api.ErrOrder {
		t.Errorf("error %d", e)
	}
	m, e := insert(t, l, 0, 399, 1)
	if e != api.OK || !slices.Equal(Order(m, 0)[:3], []int{0, 399, 1}) || len(Order(m, 0)) != 400 || Top(l, 399) != 0 || Up(l, 399, "a") != 398 {
		t.Errorf("error %d", e)
	}
}

func TestP10_4Set(t *testing.T) {
	for _, c := range []struct {
		id          int
		name, value string
		attrs       []api.Attr
	}{
		{0, "a", "b", []api.Attr{{Name: "a", Value: "b"}}}, {0, "a", "", []api.Attr{{Name: "a"}}}, {0, longName, longText, []api.Attr{{Name: longName, Value: longText}}}, {0, "a", "\xff\x00", []api.Attr{{Name: "a", Value: "\xff\x00"}}},
		{2, "id", "q", []api.Attr{{Name: "name", Value: "f"}, {Name: "id", Value: "q"}}}, {2, "name", "", []api.Attr{{Name: "name"}, {Name: "id", Value: "x"}}}, {2, "nam", "n", []api.Attr{{Name: "name", Value: "f"}, {Name: "id", Value: "x"}, {Name: "nam", Value: "n"}}},
		{1, "method", "get", []api.Attr{{Name: "id", Value: "f"}, {Name: "method", Value: "get"}, {Name: "action"}}}, {1, "action", "f", []api.Attr{{Name: "id", Value: "f"}, {Name: "method", Value: "post"}, {Name: "action", Value: "f"}}}, {1, "id", "f", page()[1].Attrs},
		{9, "z", "z", []api.Attr{{Name: "id", Value: "y"}, {Name: "z", Value: "z"}}},
	} {
		m, e := set(t, page(), c.id, c.name, c.value)
		want := page()
		want[c.id].Attrs = c.attrs
		if e != api.OK || !same(m, want) {
			t.Errorf("Set(%d, %q, %.20q) is %+v, error %d", c.id, c.name, c.value, m, e)
		}
		if v, ok := Attr(m, c.id, c.name); v != c.value || !ok {
			t.Errorf("Attr(%d, %q) is %.20q, %v", c.id, c.name, v, ok)
		}
	}
}

func TestP10_4SetWrongly(t *testing.T) {
	full := page()
	full[2].Attrs = attrs(40)
	long := longText + "a"
	for _, c := range []struct {
		id          int
		name, value string
		e           api.Errno
	}{
		{3, "a", "v", api.ErrKind}, {10, "a", "v", api.ErrKind}, {3, "A", long, api.ErrKind}, {5, "", "", api.ErrKind},
		{1, "", "v", api.ErrName}, {1, "A", "v", api.ErrName}, {1, "ID", "v", api.ErrName}, {1, longName + "a", "v", api.ErrName}, {1, "1", "v", api.ErrName}, {1, "a b", "v", api.ErrName}, {1, "A", long, api.ErrName}, {2, "A", "v", api.ErrName},
		{1, "a", long, api.ErrRange}, {1, "id", long, api.ErrRange}, {2, "a", long, api.ErrRange}, {1, "a", strings.Repeat("é", 2001), api.ErrRange},
		{2, "a", "v", api.ErrFull}, {2, "id", "", api.ErrFull}, {1, "a", "v", api.OK},
	} {
		if _, e := set(t, full, c.id, c.name, c.value); e != c.e {
			t.Errorf("Set(%d, %q, %.20q) is error %d", c.id, c.name, c.value, e)
		}
	}
	for i, a := range full[2].Attrs { // where there is no room, what is there can be changed all the same
		m, e := set(t, full, 2, a.Name, "new")
		if e != api.OK || len(m[2].Attrs) != 40 || m[2].Attrs[i] != (api.Attr{Name: a.Name, Value: "new"}) {
			t.Errorf("Set(%q) is error %d", a.Name, e)
		}
	}
	less, _ := unset(t, full, 2, full[2].Attrs[7].Name)
	if m, e := set(t, less, 2, "a", "v"); e != api.OK || m[2].Attrs[39].Name != "a" {
		t.Errorf("Set where one was taken away is error %d", e)
	}
}

func TestP10_4Unset(t *testing.T) {
	for _, c := range []struct {
		id    int
		name  string
		attrs []api.Attr
	}{
		{1, "id", page()[1].Attrs[1:]}, {1, "action", page()[1].Attrs[:2]}, {1, "method", []api.Attr{{Name: "id", Value: "f"}, {Name: "action"}}}, {4, "id", nil},
		{1, "x", page()[1].Attrs}, {1, "ID", page()[1].Attrs}, {1, "", page()[1].Attrs}, {1, "i", page()[1].Attrs}, {1, "f", page()[1].Attrs}, {1, longName + "a", page()[1].Attrs}, {0, "id", nil}, {0, longText + "a", nil}, {0, "\xff", nil},
	} {
		m, e := unset(t, page(), c.id, c.name)
		want := page()
		want[c.id].Attrs = c.attrs
		if e != api.OK || !same(m, want) {
			t.Errorf("Unset(%d, %.20q) is %+v, error %d", c.id, c.name, m, e)
		}
		if v, ok := Attr(m, c.id, c.name); v != "" || ok {
			t.Errorf("Attr(%d, %.20q) is %q, %v", c.id, c.name, v, ok)
		}
	}
	for _, name := range []string{"id", "", "A"} {
		if _, e := unset(t, page(), 3, name); e != api.ErrKind {
			t.Errorf("Unset(3, %q) is error %d", name, e)
		}
	}
}

func TestP10_4Attr(t *testing.T) {
	for id, n := range page() {
		for _, name := range []string{"id", "name", "method", "action", "ID", "Id", "i", "idd", "f", "x", "", " id"} {
			want, there := "", false
			for _, a := range n.Attrs {
				if a.Name == name {
					want, there = a.Value, true
				}
			}
			if v, ok := Attr(page(), id, name); v != want || ok != there {
				t.Errorf("Attr(%d, %q) is %q, %v", id, name, v, ok)
			}
		}
	}
}

// Attributes that are set and taken away in turn, against a list that is kept beside.
func TestP10_4SetAndUnset(t *testing.T) {
	l := page()
	var list []api.Attr
	names := append(attrs(45), api.Attr{Name: "id"}, api.Attr{Name: "idd"})
	turn := uint32(1)
	for range 4000 {
		turn = turn*1664525 + 1013904223
		name, value := names[turn>>8%uint32(len(names))].Name, strings.Repeat("v", int(turn>>20%4))
		at := slices.IndexFunc(list, func(a api.Attr) bool { return a.Name == name })
		var e, want api.Errno
		m := l
		if turn>>28 < 5 {
			m, e = Unset(l, 0, name)
			if at >= 0 {
				list = slices.Delete(list, at, at+1)
			}
		} else {
			m, e = Set(l, 0, name, value)
			if at >= 0 {
				list[at].Value = value
			} else if len(list) < 40 {
				list = append(list, api.Attr{Name: name, Value: value})
			} else {
				want = api.ErrFull
			}
		}
		if e != want {
			t.Fatalf("%q is error %d", name, e)
		}
		if e == api.OK {
			l = m
		}
		if !slices.Equal(l[0].Attrs, list) {
			t.Fatalf("there is %v, not %v", l[0].Attrs, list)
		}
	}
}

func TestP10_5Order(t *testing.T) {
	for id, want := range [][]int{{0, 1, 3, 2, 4, 5, 6, 7}, {1, 3, 2, 4, 5, 6}, {2}, {3}, {4, 5, 6}, {5}, {6}, {7}, {8, 9}, {9}, {10}} {
		if got := Order(page(), id); !slices.Equal(got, want) {
			t.Errorf("Order(%d) is %v", id, got)
		}
	}
	for id, want := range []int{0, 0, 0, 0, 0, 0, 0, 0, 8, 8, 10} {
		if got := Top(page(), id); got != want {
			t.Errorf("Top(%d) is %d", id, got)
		}
	}
	l := page()
	first, second := Order(l, 0), Order(l, 0)
	for _, list := range [][]int{first[:cap(first)], l[0].Kids} {
		for i := range list {
			list[i] = 99
		}
	}
	if !slices.Equal(second, []int{0, 1, 3, 2, 4, 5, 6, 7}) {
		t.Errorf("an answer of Order shares memory: %v", second)
	}
}

func TestP10_5Named(t *testing.T) {
	for id, want := range map[string]int{"f": 1, "x": 2, "y": 6, "": -1, "z": -1, "F": -1, "post": -1, "id": -1, " f": -1, "ff": -1, longText + "a": -1, "\xff": -1} {
		if got := Named(page(), id); got != want {
			t.Errorf("Named(%.20q) is %d", id, got)
		}
	}
	l, _ := set(t, page(), 0, "id", "x")
	if got := Named(l, "x"); got != 0 {
		t.Errorf("Named(x) is %d", got)
	}
	l, _ = insert(t, page(), 0, 7, 1) // the order counts, not the number
	if got := Named(l, "x"); got != 7 {
		t.Errorf("Named(x) is %d", got)
	}
	l, _ = remove(t, page(), 2)
	if got := Named(l, "x"); got != 7 {
		t.Errorf("Named(x) is %d", got)
	}
	l, _ = remove(t, page(), 1)
	if got := Named(l, "y"); got != -1 {
		t.Errorf("Named(y) is %d", got)
	}
	l, _ = set(t, page(), 7, "id", longText)
	if got := Named(l, longText); got != 7 {
		t.Errorf("Named of a long text is %d", got)
	}
}

func TestP10_5Up(t *testing.T) {
	for _, c := range []struct {
		id   int
		name string
		want int
	}{
		{6, "div", 4}, {6, "form", 1}, {6, "html", 0}, {6, "b", -1}, {6, "p", -1}, {6, "input", -1}, {6, "", -1}, {6, "FORM", -1}, {6, "for", -1}, {5, "div", 4}, {5, "", -1}, {4, "div", -1}, {4, "form", 1}, {9, "div", 8}, {9, "html", -1}, {8, "div", -1}, {10, "", -1}, {0, "html", -1}, {1, "html", 0}, {1, "form", -1},
	} {
		if got := Up(page(), c.id, c.name); got != c.want {
			t.Errorf("Up(%d, %q) is %d", c.id, c.name, got)
		}
	}
	l, _ := insert(t, page(), 6, 8, -1) // the nearest of two
	if Up(l, 9, "div") != 8 || Up(l, 8, "div") != 4 {
		t.Errorf("Up is %d, %d", Up(l, 9, "div"), Up(l, 8, "div"))
	}
}

func TestP10_5Text(t *testing.T) {
	for id, want := range []string{"", "abc", "", "abc", " d\n", " d\n", "", "", "", "", "lone"} {
		if got := Text(page(), id); got != want {
			t.Errorf("Text(%d) is %q", id, got)
		}
	}
	l, _ := insert(t, page(), 1, 10, 3)
	l, _ = insert(t, l, 1, 5, -1)
	if got := Text(l, 1); got != "loneabc d\n" {
		t.Errorf("Text(1) is %q", got)
	}
	l, _ = remove(t, l, 3)
	if got := Text(l, 1); got != "lone d\n" {
		t.Errorf("Text(1) is %q", got)
	}
	l = flat(400, 0)
	for i := 1; i < 400; i++ {
		l[i].Text = longText
	}
	if got := Text(l, 0); got != strings.Repeat(longText, 399) {
		t.Errorf("Text of 399 long texts has %d bytes", len(got))
	}
}

// Behind any calls, one behind the other, the document is right, and what was handed in as it was (change looks at both).
func TestP10_6Walk(t *testing.T) {
	turn := uint32(7)
	draw := func(below int) int {
		turn = turn*1664525 + 1013904223
		return int(turn >> 8 % uint32(below))
	}
	l := one()
	for range 3000 {
		m, e := l, api.ErrState
		switch draw(6) {
		case 0:
			c := [][2]string{{"div", ""}, {"form", ""}, {"", "t"}, {"", ""}, {"A", ""}, {"p", "t"}}[draw(6)]
			if len(l) < 30 {
				m, _, e = add(t, l, c[0], c[1])
			}
		case 1, 2:
			m, e = insert(t, l, draw(len(l)), draw(len(l)), draw(len(l)+1)-1)
		case 3:
			m, e = insert(t, l, draw(len(l)), draw(len(l)), -1)
		case 4:
			m, e = remove(t, l, draw(len(l)+2)-1)
		case 5:
			if m, e = set(t, l, draw(len(l)), []string{"id", "a", "b", "C"}[draw(4)], "v"); draw(3) == 0 {
				m, e = unset(t, l, draw(len(l)), "id")
			}
		}
		if e == api.OK {
			l = m
		}
	}
	if len(l) != 30 || len(Order(l, 0)) < 5 {
		t.Errorf("the walk ended with %d nodes, %d in order", len(l), len(Order(l, 0)))
	}
}

// Texts are new memory, too.
func TestP10_6Texts(t *testing.T) {
	name, value := strings.Clone("name-of-it"), strings.Clone("value of it")
	l := page()
	l[3].Text, l[1].Attrs[1].Value = value, value
	given := append(texts(l), name, value)
	var got []string
	for _, call := range []func() ([]api.Node, api.Errno){
		func() ([]api.Node, api.Errno) { return Insert(l, 7, 8, -1) },
		func() ([]api.Node, api.Errno) { return Remove(l, 2) },
		func() ([]api.Node, api.Errno) { return Set(l, 7, name, value) },
		func() ([]api.Node, api.Errno) { return Set(l, 1, "method", value) },
		func() ([]api.Node, api.Errno) { return Unset(l, 1, "id") },
		func() ([]api.Node, api.Errno) { m, _, e := Add(l, name, ""); return m, e },
		func() ([]api.Node, api.Errno) { m, _, e := Add(l, "", value); return m, e },
	} {
		m, e := call()
		if e != api.OK {
			t.Errorf("error %d", e)
		}
		got = append(got, texts(m)...)
	}
	v, _ := Attr(l, 1, "method")
	got = append(got, v, Text(l, 3), Text(l, 1))
	for _, part := range got {
		for _, whole := range given {
			if within(part, whole) {
				t.Errorf("%q shares memory with what was handed in", part)
			}
		}
	}
}

// The chapter's examples.
func TestExamples(t *testing.T) {
	l := []api.Node{{Name: "html", Parent: -1, Kids: []int{1}}, {Name: "form", Parent: 0, Kids: []int{2}}, {Name: "input", Parent: 1}}
	if got := Order(l, 0); !slices.Equal(got, []int{0, 1, 2}) {
		t.Error(got)
	}
	if m, e := Insert(l, 2, 1, -1); len(m) != 0 || e != api.ErrOrder {
		t.Error(m, e)
	}
}

func BenchmarkRight(b *testing.B) {
	l := flat(400, 0)
	for range b.N {
		Right(l)
	}
}

func BenchmarkSet(b *testing.B) {
	l := chain(400)
	for range b.N {
		Set(l, 7, "id", "x")
	}
}
