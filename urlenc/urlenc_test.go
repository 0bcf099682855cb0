package urlenc

import (
	"fmt"
	"math/rand"
	"regexp"
	"slices"
	"strconv"
	"strings"
	"testing"
	"unsafe"

	"counterfoil/api"
)

// kept are the bytes that the set Form leaves as they are.
const kept = "*-.0123456789ABCDEFGHIJKLMNOPQRSTUVWXYZ_abcdefghijklmnopqrstuvwxyz"

// pieces are what texts are put together of: the signs that cut, escapes whole and broken, ends of lines, digits, signs beyond ASCII, bytes that are no sign.
var pieces = []string{"&", "=", "+", "%", "%26", "%3d", "%2B", "2", "6", "a", " ", "\r", "\n", "é", "\xff", "\x00"}

// each goes through all texts of up to most pieces.
func each(most int, f func(s string)) {
	var grow func(s string, left int)
	grow = func(s string, left int) {
		f(s)
		if left == 0 {
			return
		}
		for _, p := range pieces {
			grow(s+p, left-1)
		}
	}
	grow("", most)
}

func allBytes() string {
	b := make([]byte, 256)
	for i := range b {
		b[i] = byte(i)
	}
	return string(b)
}

// pair is an entry that is no file.
func pair(name, value string) api.Entry { return api.Entry{Name: name, Value: value} }

// file is one that has all that a file may have.
func file(name, fileName string) api.Entry {
	return api.Entry{Name: name, Value: "content", File: true, FileName: fileName, Type: "text/plain"}
}

// The chapter's words once more, by other ways than the program's.
var (
	anEnd  = regexp.MustCompile(`\r\n|\r|\n`)
	aSign  = regexp.MustCompile(`\+|%[0-9A-Fa-f]{2}`)
	anItem = regexp.MustCompile(`[^&]+`)
)

func slowPlain(l []api.Entry) []api.Entry {
	plain := make([]api.Entry, len(l))
	for i, e := range l {
		plain[i].Name, plain[i].Value = anEnd.ReplaceAllString(e.Name, "\r\n"), anEnd.ReplaceAllString(e.Value, "\r\n")
		if e.File {
			plain[i].Value = anEnd.ReplaceAllString(e.FileName, "\r\n")
		}
	}
	return plain
}

func slowForm(s string) string {
	out := ""
	for i := range len(s) {
		switch {
		case s[i] == ' ':
			out += "+"
		case strings.IndexByte(kept, s[i]) >= 0:
			out += s[i : i+1]
		default:
			out += fmt.Sprintf("%%%02X", s[i])
		}
	}
	return out
}

func slowEncode(l []api.Entry) string {
	var told []string
	for _, e := range slowPlain(l) {
		told = append(told, slowForm(e.Name)+"="+slowForm(e.Value))
	}
	return strings.Join(told, "&")
}

func slowUnform(s string) string {
	return aSign.ReplaceAllStringFunc(s, func(p string) string {
		if p == "+" {
			return " "
		}
		c, err := strconv.ParseUint(p[1:], 16, 8)
		if err != nil {
			panic(err)
		}
		return string([]byte{byte(c)})
	})
}

func slowDecode(s string) []api.Entry {
	var l []api.Entry
	for _, item := range anItem.FindAllString(s, -1) {
		halves := append(strings.SplitN(item, "=", 2), "")
		l = append(l, pair(slowUnform(halves[0]), slowUnform(halves[1])))
	}
	return l
}

// drawn is a list of up to six entries, files among them, and such that are none but have what files have.
func drawn(r *rand.Rand) []api.Entry {
	word := func() string {
		s := ""
		for range r.Intn(5) {
			s += pieces[r.Intn(len(pieces))]
		}
		return s
	}
	var l []api.Entry
	for range r.Intn(7) {
		l = append(l, api.Entry{Name: word(), Value: word(), File: r.Intn(2) == 0, FileName: word(), Type: word()})
	}
	return l
}

func TestP19_1Plain(t *testing.T) {
	for _, c := range []struct{ in, want []api.Entry }{
		{nil, nil}, {[]api.Entry{}, nil},
		{[]api.Entry{{}}, []api.Entry{{}}}, // nothing is told, but there is an entry
		{[]api.Entry{pair("a", "1"), pair("b", "x y")}, []api.Entry{pair("a", "1"), pair("b", "x y")}},
		{[]api.Entry{pair("a", ""), pair("", "b")}, []api.Entry{pair("a", ""), pair("", "b")}},
		{[]api.Entry{pair("b", "2"), pair("a", "1"), pair("b", "2")}, []api.Entry{pair("b", "2"), pair("a", "1"), pair("b", "2")}}, // neither sorted nor made one
		{[]api.Entry{pair("a\nb\rc\r\nd", "\n\r\r\n")}, []api.Entry{pair("a\r\nb\r\nc\r\nd", "\r\n\r\n\r\n")}},
		{[]api.Entry{pair(" a ", "\t b\u2028\f")}, []api.Entry{pair(" a ", "\t b\u2028\f")}}, // no ends of lines
		{[]api.Entry{pair("a&b=c", "%26+%")}, []api.Entry{pair("a&b=c", "%26+%")}},           // not escaped here
		{[]api.Entry{pair("\xff\n", "\xc3\r\xa9\x00")}, []api.Entry{pair("\xff\r\n", "\xc3\r\n\xa9\x00")}},
		{[]api.Entry{file("f", "é.txt")}, []api.Entry{pair("f", "é.txt")}},
		{[]api.Entry{file("f\n", "a\rb\n")}, []api.Entry{pair("f\r\n", "a\r\nb\r\n")}},
		{[]api.Entry{file("f", "")}, []api.Entry{pair("f", "")}}, // its content isn't told instead
		{[]api.Entry{{File: true}}, []api.Entry{{}}},
		{[]api.Entry{{Name: "n", Value: "v", FileName: "f", Type: "t"}}, []api.Entry{pair("n", "v")}}, // what isn't a file has no name of one
		{[]api.Entry{{Name: "n", FileName: "f"}}, []api.Entry{pair("n", "")}},
	} {
		if got := Plain(c.in); !slices.Equal(got, c.want) {
			t.Errorf("Plain(%#v) is %#v, not %#v", c.in, got, c.want)
		}
	}
}

func TestP19_1Encode(t *testing.T) {
	for _, c := range []struct {
		in   []api.Entry
		want string
	}{
		{nil, ""}, {[]api.Entry{}, ""},
		{[]api.Entry{{}}, "="}, {[]api.Entry{{}, {}, {}}, "=&=&="},
		{[]api.Entry{pair("a", "1"), pair("b", "x y")}, "a=1&b=x+y"},
		{[]api.Entry{pair("a", ""), pair("", "b")}, "a=&=b"},
		{[]api.Entry{pair("b", "2"), pair("a", "1"), pair("b", "2")}, "b=2&a=1&b=2"},
		{[]api.Entry{pair("a&b", "c&d"), pair("e=f", "g=h=")}, "a%26b=c%26d&e%3Df=g%3Dh%3D"}, // signs that would cut
		{[]api.Entry{pair("+ %", "%20+%2B")}, "%2B+%25=%2520%2B%252B"},
		{[]api.Entry{pair("a\nb", "\r"), pair("\r\n", "x\n\ry")}, "a%0D%0Ab=%0D%0A&%0D%0A=x%0D%0A%0D%0Ay"},
		{[]api.Entry{pair("é", "\xff\x00\U0001f600")}, "%C3%A9=%FF%00%F0%9F%98%80"},
		{[]api.Entry{pair("aZ09*-._", "~!'()#?/;")}, "aZ09*-._=%7E%21%27%28%29%23%3F%2F%3B"},
		{[]api.Entry{pair("_charset_", "utf-8")}, "_charset_=utf-8"},
		{[]api.Entry{file("f", "é 1.txt"), pair("a", "1")}, "f=%C3%A9+1.txt&a=1"},
		{[]api.Entry{file("f", "")}, "f="}, {[]api.Entry{file("f\r", "a\nb")}, "f%0D%0A=a%0D%0Ab"},
		{[]api.Entry{{Name: "n", Value: "v", FileName: "f", Type: "t"}}, "n=v"},
	} {
		if got := Encode(c.in); got != c.want {
			t.Errorf("Encode(%#v) is %q, not %q", c.in, got, c.want)
		}
	}
}

func TestP19_1Words(t *testing.T) {
	held := func(l []api.Entry) {
		if got, want := Plain(l), slowPlain(l); !slices.Equal(got, want) {
			t.Fatalf("Plain(%#v) is %#v, not %#v", l, got, want)
		}
		if got, want := Encode(l), slowEncode(l); got != want {
			t.Fatalf("Encode(%#v) is %q, not %q", l, got, want)
		}
	}
	each(3, func(s string) {
		held([]api.Entry{pair(s, s)})
		held([]api.Entry{file(s, s)})
		held([]api.Entry{pair("", s), file(s, ""), pair(s, "")})
	})
	held([]api.Entry{pair(allBytes(), allBytes()), file(allBytes(), allBytes())})
	r := rand.New(rand.NewSource(19))
	for range 20000 {
		held(drawn(r))
	}
}

func TestP19_2(t *testing.T) {
	for s, want := range map[string][]api.Entry{
		"": nil, "&": nil, "&&&": nil,
		"a":              {pair("a", "")},
		"a=":             {pair("a", "")},
		"=a":             {pair("", "a")},
		"=":              {{}}, // it isn't empty
		"&=&":            {{}},
		"=&=":            {{}, {}},
		"==":             {pair("", "=")},
		"===a=":          {pair("", "==a=")},
		"a=1&b=x+y":      {pair("a", "1"), pair("b", "x y")},
		"&a&=b&c=d=e":    {pair("a", ""), pair("", "b"), pair("c", "d=e")},
		"a&&b&":          {pair("a", ""), pair("b", "")},
		"b=2&a=1&b=2":    {pair("b", "2"), pair("a", "1"), pair("b", "2")},
		"a=1;b=2":        {pair("a", "1;b=2")}, // cut at nothing but &
		"a=1&amp;b=2":    {pair("a", "1"), pair("amp;b", "2")},
		"?a=1#b":         {pair("?a", "1#b")},
		"a%26b=c%26d":    {pair("a&b", "c&d")}, // an escape doesn't cut
		"a%3Db":          {pair("a=b", "")},
		"a%3db=c%3Dd=e":  {pair("a=b", "c=d=e")},
		"%26":            {pair("&", "")},
		"%3D=%3D":        {pair("=", "=")},
		"+=+":            {pair(" ", " ")},
		"a+b=%2B+%2b":    {pair("a b", "+ +")},
		"%252B=%2526":    {pair("%2B", "%26")}, // read once
		"%C3%a9=é":       {pair("é", "é")},
		"%=%4":           {pair("%", "%4")},
		"%4=1":           {pair("%4", "1")}, // an escape doesn't reach over a cut
		"%4&1":           {pair("%4", ""), pair("1", "")},
		"%=41":           {pair("%", "41")},
		"%&41=%g0":       {pair("%", ""), pair("41", "%g0")},
		"a\r=b\n":        {pair("a\r", "b\n")}, // ends of lines stay as they are
		"a%0A=%0D&%0d":   {pair("a\n", "\r"), pair("\r", "")},
		" a = b & c ":    {pair(" a ", " b "), pair(" c ", "")}, // so do blanks
		" & ":            {pair(" ", ""), pair(" ", "")},
		"\x00=\xff&\xc3": {pair("\x00", "\xff"), pair("\xc3", "")},
	} {
		if got := Decode(s); !slices.Equal(got, want) {
			t.Errorf("Decode(%q) is %#v, not %#v", s, got, want)
		}
	}
}

func TestP19_2Words(t *testing.T) {
	each(4, func(s string) {
		if got, want := Decode(s), slowDecode(s); !slices.Equal(got, want) {
			t.Fatalf("Decode(%q) is %#v, not %#v", s, got, want)
		}
	})
	for a := range 256 {
		for b := range 256 {
			s := string([]byte{'x', byte(a), byte(b), '1'})
			if got, want := Decode(s), slowDecode(s); !slices.Equal(got, want) {
				t.Fatalf("Decode(%q) is %#v, not %#v", s, got, want)
			}
		}
	}
}

func TestP19_3(t *testing.T) {
	back := func(l []api.Entry) {
		plain := Plain(l)
		if got := Decode(Encode(l)); !slices.Equal(got, plain) || len(plain) != len(l) {
			t.Fatalf("Decode of Encode(%#v) is %#v, not %#v", l, got, plain)
		}
		if again := Plain(plain); !slices.Equal(again, plain) {
			t.Fatalf("Plain of Plain(%#v) is %#v, not %#v", l, again, plain)
		}
	}
	back(nil)
	each(3, func(s string) {
		back([]api.Entry{pair(s, s)})
		back([]api.Entry{file(s, s), pair(s, ""), pair("", s)})
	})
	for i := range 256 {
		for j := range 256 {
			s := string([]byte{byte(i), byte(j)})
			back([]api.Entry{pair(s, s)})
		}
	}
	r := rand.New(rand.NewSource(193))
	for range 50000 {
		back(drawn(r))
	}
	back(slices.Repeat([]api.Entry{{}}, 1000))
	back([]api.Entry{pair(strings.Repeat(allBytes(), 1000), strings.Repeat("&=\n", 100000))})
}

// Much is done in a time that grows no faster than it: else this wouldn't end.
func TestR1Much(t *testing.T) {
	many := 1 << 20
	for s, want := range map[string]int{"&": 0, "a&": many, "=&": many, "=": 1, "%26": 1, "%3D+%": 1} {
		if got := Decode(strings.Repeat(s, many)); len(got) != want {
			t.Errorf("Decode of many %q has %d entries, not %d", s, len(got), want)
		}
	}
	l := slices.Repeat([]api.Entry{pair("a", "\n")}, many)
	if got := Encode(l); len(got) != len("a=%0D%0A&")*many-1 {
		t.Errorf("Encode of many entries has %d bytes", len(got))
	}
	if got := Plain(l); len(got) != many || got[many-1] != pair("a", "\r\n") {
		t.Errorf("Plain of many entries has %d", len(got))
	}
}

// roomyList has spare room behind it.
func roomyList() []api.Entry {
	l := []api.Entry{pair("name", "value"), file("name", "file.txt"), pair("two\nlines", "nothing\r\n")}
	return append(slices.Clone(l), file("spare", "room"), pair("spare", "room"))[:len(l)]
}

func TestR4Lists(t *testing.T) {
	l := roomyList()
	was := slices.Clone(l[:cap(l)])
	first, second := Plain(l), Plain(l)
	want := slices.Clone(second)
	for i := range first[:cap(first)] {
		first[:cap(first)][i] = pair("spoilt", "spoilt")
	}
	if !slices.Equal(second, want) || !slices.Equal(Plain(l), want) {
		t.Errorf("Plain is %#v, then %#v, not %#v", second, Plain(l), want)
	}
	s := Encode(l)
	if got := Encode(l); got != s {
		t.Errorf("Encode is %q, then %q", s, got)
	}
	first = Decode(s)
	for i := range first[:cap(first)] {
		first[:cap(first)][i] = pair("spoilt", "spoilt")
	}
	if got := Decode(s); !slices.Equal(got, want) {
		t.Errorf("Decode is %#v, not %#v", got, want)
	}
	if !slices.Equal(l[:cap(l)], was) {
		t.Error("what was handed in is changed")
	}
}

// TestR4Texts holds that no text that is answered lies where another one does, nor where one that was handed in does, even where nothing had to be changed.
func TestR4Texts(t *testing.T) {
	var taken []string
	alone := func(name, s string) {
		for _, other := range taken {
			if s != "" && (within(s, other) || within(other, s)) {
				t.Errorf("%s: %q shares memory with %q", name, s, other)
			}
		}
		taken = append(taken, s)
	}
	l := append(roomyList(), pair("a", "b"), pair("a", "a"))
	encoded := "name=value&a=b&a&=a"
	taken = append(taken, encoded)
	for _, e := range l {
		taken = append(taken, e.Name, e.Value, e.FileName, e.Type)
	}
	for range 2 {
		for _, e := range slices.Concat(Plain(l), Decode(encoded)) {
			alone("Name", e.Name)
			alone("Value", e.Value)
		}
		alone("Encode", Encode(l))
		alone("Encode", Encode(l[:1]))
	}
}

// within tells whether part begins in the memory of whole.
func within(part, whole string) bool {
	at, from := uintptr(unsafe.Pointer(unsafe.StringData(part))), uintptr(unsafe.Pointer(unsafe.StringData(whole)))
	return at >= from && at < from+uintptr(len(whole))
}
