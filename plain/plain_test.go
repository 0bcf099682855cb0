package plain

import (
	"math"
	"math/rand"
	"regexp"
	"slices"
	"strings"
	"testing"
	"unsafe"

	"counterfoil/api"
	"counterfoil/parts"
	"counterfoil/urlenc"
)

// pieces are what texts are put together of: ends of lines, what ends a line elsewhere but not here, the signs that would cut or escape, signs beyond ASCII, bytes that are no sign.
var pieces = []string{"\r", "\n", "\r\n", "=", "&", "%0A", "\"", "+", " ", "a", "x", "\t", "\v", "\f", "\u0085", "\u2028", "é", "\xff", "\x00"}

// each goes through all texts of up to most pieces.
func each(most int, f func(s string)) {
	var grow func(s string, left int)
	grow = func(s string, left int) {
		f(s)
		if left == 0 {
			return
		}
		for _, p := range pieces {
			grow(s+p, left-1)
		}
	}
	grow("", most)
}

// pair is an entry that is no file.
func pair(name, value string) api.Entry { return api.Entry{Name: name, Value: value} }

// file is one that has all that a file may have.
func file(name, fileName string) api.Entry {
	return api.Entry{Name: name, Value: "content", File: true, FileName: fileName, Type: "text/css"}
}

// drawn is a list of up to five entries, files among them, and such that are none but have what files have.
func drawn(r *rand.Rand, some []string) []api.Entry {
	word := func() string {
		s := ""
		for range r.Intn(5) {
			s += some[r.Intn(len(some))]
		}
		return s
	}
	var l []api.Entry
	for range r.Intn(6) {
		l = append(l, api.Entry{Name: word(), Value: word(), File: r.Intn(2) == 0, FileName: word(), Type: word()})
	}
	return l
}

// The chapter's words once more, by other ways than the program's.
var anEnd = regexp.MustCompile(`\r\n|\r|\n`)

func slowPairs(s string) string { return anEnd.ReplaceAllString(s, "\r\n") }

func slowEncode(l []api.Entry) string {
	lines := []string{}
	for _, e := range l {
		value := e.Value
		if e.File {
			value = e.FileName
		}
		lines = append(lines, slowPairs(e.Name)+"="+slowPairs(value))
	}
	return strings.Join(append(lines, ""), "\r\n")
}

func slowSplit(s string) []string {
	lines := anEnd.Split(s, -1)
	if last := len(lines) - 1; lines[last] == "" {
		return lines[:last]
	}
	return lines
}

func slowBody(kind int, l []api.Entry, b string) (string, string, api.Errno) {
	if kind == 1 {
		return urlenc.Encode(l), "application/x-www-form-urlencoded", api.OK
	}
	if kind == 3 {
		return slowEncode(l), "text/plain", api.OK
	}
	if kind != 2 {
		return "", "", api.ErrKind
	}
	if !parts.Clear(l, b) {
		return "", "", api.ErrBound
	}
	body, _ := parts.Encode(l, b)
	return body, "multipart/form-data; boundary=" + b, api.OK
}

// held holds Body against the chapter's words.
func held(t *testing.T, kind int, l []api.Entry, b string) {
	t.Helper()
	body, of, err := Body(kind, l, b)
	wantBody, wantOf, want := slowBody(kind, l, b)
	if body != wantBody || of != wantOf || err != want {
		t.Fatalf("Body(%d, %#v, %q) is %q, %q and %d, not %q, %q and %d", kind, l, b, body, of, err, wantBody, wantOf, want)
	}
}

func TestP21_1(t *testing.T) {
	for _, c := range []struct {
		in   []api.Entry
		want string
	}{
		{nil, ""}, {[]api.Entry{}, ""},
		{[]api.Entry{pair("a", "1")}, "a=1\r\n"}, // the chapter's example
		{[]api.Entry{{}}, "=\r\n"}, {[]api.Entry{{}, {}}, "=\r\n=\r\n"},
		{[]api.Entry{pair("a", ""), pair("", "b")}, "a=\r\n=b\r\n"},
		{[]api.Entry{pair("b", "2"), pair("a", "1"), pair("b", "2")}, "b=2\r\na=1\r\nb=2\r\n"}, // neither sorted nor made one
		{[]api.Entry{pair("t", "b c")}, "t=b c\r\n"},                                           // a plan's body in the DOC's fifth example
		{[]api.Entry{pair("a=b", "c=d&e"), pair("+ %", "%0A\"")}, "a=b=c=d&e\r\n+ %=%0A\"\r\n"},
		{[]api.Entry{pair("a\nb", "\r"), pair("\r\n", "x\n\ry")}, "a\r\nb=\r\n\r\n\r\n=x\r\n\r\ny\r\n"},
		{[]api.Entry{pair("a\r", "\n")}, "a\r\n=\r\n\r\n"},
		{[]api.Entry{pair("é", "\xff\x00\u2028\v\f")}, "é=\xff\x00\u2028\v\f\r\n"},
		{[]api.Entry{file("f", "é 1.txt"), pair("a", "1")}, "f=é 1.txt\r\na=1\r\n"}, // a file's content isn't told
		{[]api.Entry{file("f\r", "a\nb")}, "f\r\n=a\r\nb\r\n"},
		{[]api.Entry{file("f", "")}, "f=\r\n"}, {[]api.Entry{{File: true}}, "=\r\n"},
		{[]api.Entry{{Name: "n", Value: "v", FileName: "f", Type: "t"}}, "n=v\r\n"},
		{[]api.Entry{{Name: "n", FileName: "f"}}, "n=\r\n"},
	} {
		if got := Encode(c.in); got != c.want {
			t.Errorf("Encode(%#v) is %q, not %q", c.in, got, c.want)
		}
	}
}

func TestP21_1Words(t *testing.T) {
	same := func(l []api.Entry) {
		if got, want := Encode(l), slowEncode(l); got != want {
			t.Fatalf("Encode(%#v) is %q, not %q", l, got, want)
		}
	}
	each(3, func(s string) {
		same([]api.Entry{pair(s, "x")})
		same([]api.Entry{pair("x", s), file(s, s)})
	})
	r := rand.New(rand.NewSource(211))
	for range 50000 {
		same(drawn(r, pieces))
	}
}

func TestP21_2(t *testing.T) {
	for s, want := range map[string][]string{
		"": nil, "a": {"a"}, "a b": {"a b"},
		"\n": {""}, "\r": {""}, "\r\n": {""}, // an end of a line has a text ahead of it, though an empty one
		"a\n": {"a"}, "a\r": {"a"}, "a\r\n": {"a"}, "\na": {"", "a"}, "\ra": {"", "a"}, "\r\na": {"", "a"},
		"\n\n": {"", ""}, "\r\r": {"", ""}, "\n\r": {"", ""}, "\r\n\r\n": {"", ""}, "\r\r\n": {"", ""}, "\r\n\n": {"", ""}, "\r\n\r": {"", ""}, "\n\r\n": {"", ""},
		"a\nb\rc\r\nd": {"a", "b", "c", "d"}, "a\n\nb": {"a", "", "b"}, "a\r\rb\n\rc\r\n\r\nd": {"a", "", "b", "", "c", "", "d"},
		" a \n\t\n b": {" a ", "\t", " b"}, " ": {" "}, "\n ": {"", " "}, // blanks stay
		"a\vb\fc\u0085d\u2028e\u2029f": {"a\vb\fc\u0085d\u2028e\u2029f"}, // these are no ends of lines
		"\xff\n\xc3\r\xa9\x00":         {"\xff", "\xc3", "\xa9\x00"},
		"%0D%0A\\r\\n":                 {"%0D%0A\\r\\n"},
		"a=1\r\n\r\nb=2\r\n":           {"a=1", "", "b=2"},
	} {
		if got := Split(s); !slices.Equal(got, want) {
			t.Errorf("Split(%q) is %q, not %q", s, got, want)
		}
	}
	each(4, func(s string) {
		if got, want := Split(s), slowSplit(s); !slices.Equal(got, want) {
			t.Fatalf("Split(%q) is %q, not %q", s, got, want)
		}
	})
	for i := range 256 {
		s := "a" + string([]byte{byte(i)}) + "b"
		if got, want := Split(s), slowSplit(s); !slices.Equal(got, want) {
			t.Errorf("Split(%q) is %q, not %q", s, got, want)
		}
	}
}

func TestP21_3(t *testing.T) {
	one := []api.Entry{pair("a b", "1\n2"), file("f", "é.txt")}
	const (
		part     = "--q\r\nContent-Disposition: form-data; name=\"a b\"\r\n\r\n1\r\n2\r\n"
		filePart = "--q\r\nContent-Disposition: form-data; name=\"f\"; filename=\"é.txt\"\r\nContent-Type: text/css\r\n\r\ncontent\r\n"
		lastLine = "--q--\r\n"
		long     = "0123456789012345678901234567890123456789012345678901234567890123456789"
	)
	for _, c := range []struct {
		kind     int
		l        []api.Entry
		b        string
		body, of string
		err      api.Errno
	}{
		{1, nil, "", "", "application/x-www-form-urlencoded", api.OK},
		{1, one, "", "a+b=1%0D%0A2&f=%C3%A9.txt", "application/x-www-form-urlencoded", api.OK},
		{1, one, "q", "a+b=1%0D%0A2&f=%C3%A9.txt", "application/x-www-form-urlencoded", api.OK},
		{1, one, "form", "a+b=1%0D%0A2&f=%C3%A9.txt", "application/x-www-form-urlencoded", api.OK}, // a boundary that can't be is none of its matters
		{2, nil, "q", lastLine, "multipart/form-data; boundary=q", api.OK},
		{2, one, "q", part + filePart + lastLine, "multipart/form-data; boundary=q", api.OK},
		{2, nil, "--", "------\r\n", "multipart/form-data; boundary=--", api.OK},
		{2, nil, "form", "--form--\r\n", "multipart/form-data; boundary=form", api.OK}, // it stands in no part, as there is none
		{2, nil, long, "--" + long + "--\r\n", "multipart/form-data; boundary=" + long, api.OK},
		{2, one, "form", "", "", api.ErrBound}, // it stands in each part
		{2, one, "content", "", "", api.ErrBound},
		{2, one, "", "", "", api.ErrBound}, {2, nil, "", "", "", api.ErrBound}, {2, nil, "a b", "", "", api.ErrBound}, {2, nil, "q_", "", "", api.ErrBound}, {2, nil, long + "0", "", "", api.ErrBound},
		{3, nil, "", "", "text/plain", api.OK},
		{3, one, "", "a b=1\r\n2\r\nf=é.txt\r\n", "text/plain", api.OK},
		{3, one, "q", "a b=1\r\n2\r\nf=é.txt\r\n", "text/plain", api.OK},
		{3, one, "form", "a b=1\r\n2\r\nf=é.txt\r\n", "text/plain", api.OK},
	} {
		if body, of, err := Body(c.kind, c.l, c.b); body != c.body || of != c.of || err != c.err {
			t.Errorf("Body(%d, %#v, %q) is %q, %q and %d, not %q, %q and %d", c.kind, c.l, c.b, body, of, err, c.body, c.of, c.err)
		}
	}
	kinds := []int{math.MinInt, math.MinInt + 1, -1 << 32, -3, -2, -1, 0, 4, 5, 257, 258, 259, 1<<16 + 1, 1<<32 + 1, 1<<32 + 2, 1<<32 + 3, math.MaxInt - 1, math.MaxInt}
	for _, kind := range kinds {
		for _, b := range []string{"q", "", "form"} { // ErrBound is an error of kind 2 alone
			if body, of, err := Body(kind, one, b); body != "" || of != "" || err != api.ErrKind {
				t.Errorf("Body(%d) with %q is %q, %q and %d", kind, b, body, of, err)
			}
		}
	}
}

func TestP21_3Words(t *testing.T) {
	r := rand.New(rand.NewSource(213))
	boundaries := []string{"", "a", "x", "q", "form", "form-data", "A", "0A", "-", "--", "a b", "é"}
	found := map[api.Errno]int{}
	for range 50000 {
		l, b := drawn(r, pieces), boundaries[r.Intn(len(boundaries))]
		for kind := range 5 {
			held(t, kind, l, b)
		}
		_, _, err := Body(2, l, b)
		found[err]++
	}
	if found[api.OK] < 5000 || found[api.ErrBound] < 5000 {
		t.Errorf("drawn is too little: %v", found)
	}
}

func TestP21_4(t *testing.T) {
	var calm []string // pieces without an end of a line
	for _, p := range pieces {
		if !strings.ContainsAny(p, "\r\n") {
			calm = append(calm, p)
		}
	}
	same := func(l []api.Entry) {
		var want []string
		for _, e := range l {
			value := e.Value
			if e.File {
				value = e.FileName
			}
			want = append(want, e.Name+"="+value)
		}
		if got := Split(Encode(l)); !slices.Equal(got, want) {
			t.Fatalf("Split of Encode(%#v) is %q, not %q", l, got, want)
		}
	}
	same(nil)
	same([]api.Entry{{}})
	same([]api.Entry{{}, {}, {}})
	same([]api.Entry{pair("", ""), pair("a", ""), pair("", "b"), pair("a=b", "=c"), pair(" ", " ")})
	same([]api.Entry{{Name: "f", File: true, FileName: "x", Type: "a\nb", Value: "1\r\n2"}}) // a file's ends of lines aren't told
	r := rand.New(rand.NewSource(214))
	for range 50000 {
		same(drawn(r, calm))
	}
	for _, l := range [][]api.Entry{{pair("a\n", "")}, {pair("", "\r")}, {pair("a", "1\r\n2")}, {file("f", "\n")}} { // of these it doesn't hold
		if got := Split(Encode(l)); len(got) != 2 {
			t.Errorf("Split of Encode(%#v) is %q", l, got)
		}
	}
}

// TestR1Much takes texts and lists so great that what isn't done in one go would not end in time.
func TestR1Much(t *testing.T) {
	many := 1 << 20
	for _, end := range []string{"\r", "\n", "\r\n"} {
		if got := Split(strings.Repeat(end, many)); len(got) != many || got[0] != "" || got[many-1] != "" {
			t.Errorf("Split of many %q is %d lines", end, len(got))
		}
	}
	long := strings.Repeat("a", 1<<24)
	if got := Split(long); !slices.Equal(got, []string{long}) {
		t.Errorf("Split of a long text is %d lines", len(got))
	}
	l := slices.Repeat([]api.Entry{pair("\n", "v")}, many)
	if got := Encode(l); got != strings.Repeat("\r\n=v\r\n", many) {
		t.Errorf("Encode of many entries is %d bytes", len(got))
	}
	if got := Split(Encode(l)); len(got) != 2*many || got[2*many-1] != "=v" {
		t.Errorf("Split of it is %d lines", len(got))
	}
	for kind := 1; kind <= 3; kind++ {
		held(t, kind, l, "q")
	}
}

// roomyList is one whose spare room holds entries too, with texts of all ways.
func roomyList() []api.Entry {
	return []api.Entry{pair("name", "value"), file("f", "a.txt"), pair("a\nb", "\r"), pair("x", "y"), file("z", "z")}[:3]
}

func TestR4Lists(t *testing.T) {
	l := roomyList()
	was := slices.Clone(l[:cap(l)])
	Encode(l)
	for kind := range 5 {
		Body(kind, l, "q")
		Body(kind, l, "form")
	}
	if !slices.Equal(l[:cap(l)], was) {
		t.Error("what was handed in is changed")
	}
	first, second := Split("a\nb\nc"), Split("a\nb\nc")
	for i := range first[:cap(first)] {
		first[:cap(first)][i] = "spoilt"
	}
	if want := []string{"a", "b", "c"}; !slices.Equal(second, want) || !slices.Equal(Split("a\nb\nc"), want) {
		t.Errorf("Split is %q, then %q", second, Split("a\nb\nc"))
	}
}

// TestR4Texts holds that no text that is answered lies where another answer's does, nor where one that was handed in does, even where nothing had to be changed.
func TestR4Texts(t *testing.T) {
	var taken []string
	alone := func(name string, answer ...string) {
		for _, s := range answer {
			for _, other := range taken {
				if s != "" && (within(s, other) || within(other, s)) {
					t.Errorf("%s: %q shares memory with %q", name, s, other)
				}
			}
		}
		taken = append(taken, answer...)
	}
	l, b := roomyList(), strings.Clone("q")
	texts := []string{strings.Clone("abc"), strings.Clone("abc\n"), strings.Clone("a\r\nb\rc")}
	taken = append(taken, b, escapedType, partsType, linesType)
	taken = append(taken, texts...)
	for _, e := range l {
		taken = append(taken, e.Name, e.Value, e.FileName, e.Type)
	}
	for range 2 {
		for _, s := range texts {
			alone("Split", Split(s)...)
		}
		for _, some := range [][]api.Entry{nil, l[:1], l} {
			alone("Encode", Encode(some))
			for kind := range 5 {
				body, of, _ := Body(kind, some, b)
				alone("Body", body, of)
			}
		}
	}
}

// within tells whether part begins in the memory of whole.
func within(part, whole string) bool {
	at, from := uintptr(unsafe.Pointer(unsafe.StringData(part))), uintptr(unsafe.Pointer(unsafe.StringData(whole)))
	return at >= from && at < from+uintptr(len(whole))
}
