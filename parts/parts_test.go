package parts

import (
	"fmt"
	"math/rand"
	"regexp"
	"slices"
	"strings"
	"testing"
	"unsafe"

	"counterfoil/api"
)

// pieces are what names, values and types are put together of: the signs that are told by others and what tells them, whole and broken, ends of lines, what parts and lines of boundaries begin with, signs beyond ASCII, bytes that are no sign.
var pieces = []string{"\"", "\r", "\n", "\r\n", "%0A", "%0D", "%22", "%0a", "%", "0A", "--x", "--", "x", "a", " ", ";", `; filename="`, "\r\n\r\n", "Content-Type: ", "é", "\xff", "\x00", "~"}

// crlf puts an end of a line for each / of s, as the chapter tells texts, and / for each |.
func crlf(s string) string { return strings.NewReplacer("/", "\r\n", "|", "/").Replace(s) }

func allBytes() string {
	b := make([]byte, 256)
	for i := range b {
		b[i] = byte(i)
	}
	return string(b)
}

// pair is an entry that is no file.
func pair(name, value string) api.Entry { return api.Entry{Name: name, Value: value} }

func file(name, fileName, kind, value string) api.Entry {
	return api.Entry{Name: name, Value: value, File: true, FileName: fileName, Type: kind}
}

// each goes through all texts of up to most of the given pieces.
func each(given []string, most int, f func(s string)) {
	var grow func(s string, left int)
	grow = func(s string, left int) {
		f(s)
		if left == 0 {
			return
		}
		for _, p := range given {
			grow(s+p, left-1)
		}
	}
	grow("", most)
}

// drawn is a list of up to five entries, files among them, and such that are none but have what files have.
func drawn(r *rand.Rand) []api.Entry {
	word := func() string {
		s := ""
		for range r.Intn(5) {
			s += pieces[r.Intn(len(pieces))]
		}
		return s
	}
	var l []api.Entry
	for range r.Intn(6) {
		l = append(l, api.Entry{Name: word(), Value: word(), File: r.Intn(2) == 0, FileName: word(), Type: word()})
	}
	return l
}

// The chapter's words once more, by other ways than the program's.
var (
	aBoundary = regexp.MustCompile(`^[A-Za-z0-9-]{1,70}$`)
	anEnd     = regexp.MustCompile(`\r\n|\r|\n`)
	aType     = regexp.MustCompile(`^[ -~]+$`)
	aPart     = regexp.MustCompile(`(?s)^Content-Disposition: form-data; name="([^\r\n"]*)"(; filename="([^\r\n"]*)"\r\nContent-Type: ([^\r\n]*))?\r\n\r\n(.*)$`)
	aSign     = regexp.MustCompile(`%0A|%0D|%22`)
	aBreak    = regexp.MustCompile(`[\r\n"]`)
)

func slowName(s string) string {
	return aBreak.ReplaceAllStringFunc(anEnd.ReplaceAllString(s, "\r\n"), func(c string) string { return fmt.Sprintf("%%%02X", c[0]) })
}

func slowRead(s string) string {
	return aSign.ReplaceAllStringFunc(s, func(p string) string { return map[string]string{"%0A": "\n", "%0D": "\r", "%22": "\""}[p] })
}

func slowType(s string) string {
	if aType.MatchString(s) {
		return s
	}
	return "application/octet-stream"
}

func slowPart(e api.Entry) string {
	if e.File {
		return fmt.Sprintf("Content-Disposition: form-data; name=\"%s\"; filename=\"%s\"\r\nContent-Type: %s\r\n\r\n%s", slowName(e.Name), slowName(e.FileName), slowType(e.Type), e.Value)
	}
	return fmt.Sprintf("Content-Disposition: form-data; name=\"%s\"\r\n\r\n%s", slowName(e.Name), anEnd.ReplaceAllString(e.Value, "\r\n"))
}

func slowClear(l []api.Entry, b string) bool {
	for _, e := range l {
		if len(strings.Split(slowPart(e), b)) > 1 {
			return false
		}
	}
	return aBoundary.MatchString(b)
}

func slowEncode(l []api.Entry, b string) (string, api.Errno) {
	if !slowClear(l, b) {
		return "", api.ErrBound
	}
	s := ""
	for _, e := range l {
		s += fmt.Sprintf("--%s\r\n%s\r\n", b, slowPart(e))
	}
	return s + fmt.Sprintf("--%s--\r\n", b), api.OK
}

// slowDecode cuts at each beginning of a line of the boundary, whatever is behind it.
func slowDecode(s, b string) ([]api.Entry, api.Errno) {
	cut := strings.Split("\r\n"+s, "\r\n--"+b)
	if !aBoundary.MatchString(b) || len(cut) < 2 || cut[0] != "" || cut[len(cut)-1] != "--\r\n" {
		return nil, api.ErrForm
	}
	var l []api.Entry
	for _, p := range cut[1 : len(cut)-1] {
		if !strings.HasPrefix(p, "\r\n") {
			return nil, api.ErrForm
		}
		m := aPart.FindStringSubmatch(p[2:])
		if m == nil {
			return nil, api.ErrForm
		}
		l = append(l, api.Entry{Name: slowRead(m[1]), Value: m[5], File: m[2] != "", FileName: slowRead(m[3]), Type: m[4]})
	}
	return l, api.OK
}

func slowTold(l []api.Entry) []api.Entry {
	var told []api.Entry
	for _, e := range l {
		if e.File {
			told = append(told, file(slowRead(slowName(e.Name)), slowRead(slowName(e.FileName)), slowType(e.Type), e.Value))
		} else {
			told = append(told, pair(slowRead(slowName(e.Name)), anEnd.ReplaceAllString(e.Value, "\r\n")))
		}
	}
	return told
}

func TestP20_1Fit(t *testing.T) {
	for b, want := range map[string]bool{
		"": false, "a": true, "Z": true, "0": true, "-": true, "--": true, "aZ09-": true, "-a-": true,
		strings.Repeat("a", 70): true, strings.Repeat("-", 70): true, strings.Repeat("a", 71): false,
		"a_b": false, "a b": false, " a": false, "a ": false, "a\r\n": false, "a\n": false, "é": false, "aé": false, "\xff": false, "a\x00": false, "a.b": false, "a+b": false, "a'b": false, "a=b": false,
		strings.Repeat("a", 69) + "_": false, strings.Repeat("é", 35): false,
	} {
		if Fit(b) != want {
			t.Errorf("Fit(%q) is not %v", b, want)
		}
	}
	for i := range 256 {
		for _, b := range []string{string([]byte{byte(i)}), string([]byte{'a', byte(i)}), string([]byte{byte(i), 'a'})} {
			if Fit(b) != aBoundary.MatchString(b) {
				t.Errorf("Fit(%q) is %v", b, Fit(b))
			}
		}
	}
	for n := range 200 {
		if b := strings.Repeat("x", n); Fit(b) != (n >= 1 && n <= 70) {
			t.Errorf("Fit of %d letters is %v", n, Fit(b))
		}
	}
}

func TestP20_1Clear(t *testing.T) {
	one := []api.Entry{pair("name1", "value2\nline3")}
	two := []api.Entry{pair("q", "r"), file("name1", "file2\"", "type3", "value4\n5")}
	for _, c := range []struct {
		l    []api.Entry
		b    string
		want bool
	}{
		{nil, "x", true}, {nil, "form-data", true}, {[]api.Entry{}, "-", true}, // there is no part
		{nil, "", false}, {nil, "a_b", false}, {nil, strings.Repeat("a", 71), false}, {one, "", false}, {one, "a_b", false}, // no boundaries
		{one, "x", true}, {one, "X", true}, {one, "--x", true},
		{one, "name1", false}, {one, "ame", false}, {one, "NAME1", true}, {one, "name12", true},
		{one, "value2", false}, {one, "line3", false}, {one, "value2line3", true}, {one, "2-3", true},
		{one, "form", false}, {one, "Content-Disposition", false}, {one, "form-data", false}, {one, "-", false}, {one, "--", true},
		{one, "filename", true}, {one, "Content-Type", true}, // of files alone
		{one, "0D", true}, {[]api.Entry{pair("a\n", "")}, "0D", false}, {[]api.Entry{pair("a\n", "")}, "0A", false}, {[]api.Entry{pair("a", "\n")}, "0D", true}, // as the name is told
		{[]api.Entry{pair("a\r", "")}, "0A", false}, {[]api.Entry{pair("\"", "")}, "22", false}, {[]api.Entry{pair("", "\"")}, "22", true},
		{two, "x", true}, {two, "q", false}, {two, "name1", false}, {two, "file2", false}, {two, "type3", false}, {two, "value4", false}, {two, "5", false}, {two, "22", false},
		{two, "filename", false}, {two, "Content-Type", false}, {two, "octet", true},
		{[]api.Entry{file("q", "q", "", "")}, "octet", false}, {[]api.Entry{file("q", "q", "zz\n", "")}, "octet", false}, {[]api.Entry{file("q", "q", "zz\n", "")}, "zz", true}, // as the type is told
		{[]api.Entry{{Name: "q", FileName: "zz", Type: "yy"}}, "zz", true}, {[]api.Entry{{Name: "q", FileName: "zz", Type: "yy"}}, "yy", true}, {[]api.Entry{{Name: "q", FileName: "zz"}}, "filename", true}, // it is no file
		{[]api.Entry{pair("", "ab"), pair("", "cd")}, "bcd", true},
	} {
		if got := Clear(c.l, c.b); got != c.want {
			t.Errorf("Clear(%#v, %q) is %v", c.l, c.b, got)
		}
	}
}

func TestP20_1Choose(t *testing.T) {
	l := []api.Entry{pair("a1", "2"), file("f", "", "", "3")}
	for _, c := range []struct {
		l     []api.Entry
		draws []string
		want  string
		err   api.Errno
	}{
		{l, []string{"q"}, "q", api.OK}, {l, []string{"q", "z"}, "q", api.OK}, {l, []string{"z", "q"}, "z", api.OK},
		{l, []string{"", "a b", "form", "1", "ok", "q"}, "ok", api.OK},
		{l, nil, "", api.ErrBound}, {l, []string{}, "", api.ErrBound}, {nil, nil, "", api.ErrBound}, {l, []string{""}, "", api.ErrBound},
		{l, []string{"1", "2", "3", "a", "-", "stream", "", "q"}, "q", api.OK},           // the eighth
		{l, []string{"1", "2", "3", "a", "-", "stream", "", "f", "q"}, "", api.ErrBound}, // the ninth isn't asked
		{l, []string{"1", "1", "1", "1", "1", "1", "1"}, "", api.ErrBound},               // seven
		{nil, []string{"_", "form", "q"}, "form", api.OK},                                // there is no part
		{nil, []string{"", "", "", "", "", "", "", "", "q"}, "", api.ErrBound},           // even then
		{l, []string{strings.Repeat("q", 71), strings.Repeat("q", 70)}, strings.Repeat("q", 70), api.OK},
	} {
		if got, err := Choose(c.l, c.draws); got != c.want || err != c.err {
			t.Errorf("Choose(%#v, %q) is %q and %d, not %q and %d", c.l, c.draws, got, err, c.want, c.err)
		}
	}
	r := rand.New(rand.NewSource(201))
	for range 20000 {
		l, draws := drawn(r), []string{}
		for range r.Intn(12) {
			draws = append(draws, []string{"a", "x", "form", "0A", "22", "q", "", "a_"}[r.Intn(8)])
		}
		want, wantErr := "", api.ErrBound
		if i := slices.IndexFunc(draws, func(b string) bool { return slowClear(l, b) }); i >= 0 && i < 8 {
			want, wantErr = draws[i], api.OK
		}
		if got, err := Choose(l, draws); got != want || err != wantErr {
			t.Fatalf("Choose(%#v, %q) is %q and %d, not %q and %d", l, draws, got, err, want, wantErr)
		}
	}
}

func TestP20_2(t *testing.T) {
	const head = "Content-Disposition: form-data; name="
	for _, c := range []struct {
		l    []api.Entry
		b    string
		want string // as crlf reads it
	}{
		{nil, "x", "--x--/"}, {[]api.Entry{}, "x", "--x--/"}, {nil, "-", "-----/"},
		{[]api.Entry{pair("a", "1")}, "x", "--x/" + head + `"a"//1/--x--/`},
		{[]api.Entry{{}}, "x", "--x/" + head + `""///--x--/`}, // nothing is told, but there is a part
		{[]api.Entry{pair("b", "2"), pair("a", "1"), pair("b", "2")}, "x-", "--x-/" + head + `"b"//2/--x-/` + head + `"a"//1/--x-/` + head + `"b"//2/--x---/`},
		{[]api.Entry{pair("a\nb\rc\r\nd\"%", "\n\r\r\n\"%")}, "x", "--x/" + head + "\"a%0D%0Ab%0D%0Ac%0D%0Ad%22%\"/////\"%/--x--/"},
		{[]api.Entry{pair("%0A%22", "%0D")}, "x", "--x/" + head + `"%0A%22"//%0D/--x--/`}, // a % isn't told by another
		{[]api.Entry{pair("é=&+ \xff\x00", "é=&+ \xff\x00")}, "x", "--x/" + head + "\"é=&+ \xff\x00\"//é=&+ \xff\x00/--x--/"},
		{[]api.Entry{file("f", "a.t", "b/c", "h")}, "x", "--x/" + head + `"f"; filename="a.t"/Content-Type: b|c//h/--x--/`},
		{[]api.Entry{{File: true}}, "x", "--x/" + head + `""; filename=""/Content-Type: application|octet-stream///--x--/`},
		{[]api.Entry{file("f\"\n", "a\rb\"", " ~", "\r\n\n\r")}, "x", "--x/" + head + `"f%22%0D%0A"; filename="a%0D%0Ab%22"/Content-Type:  ~///` + "\n\r" + `/--x--/`}, // its content is as it is
		{[]api.Entry{file("f", "", "a\x1f", ""), file("f", "", "\x7f", ""), file("f", "", "é", ""), file("f", "", "a\n", ""), file("f", "", " ", "")}, "x",
			strings.Repeat("--x/"+head+`"f"; filename=""/Content-Type: application|octet-stream///`, 4) + "--x/" + head + `"f"; filename=""/Content-Type:  ///--x--/`},
		{[]api.Entry{{Name: "n", Value: "v\n", FileName: "w", Type: "t"}}, "x", "--x/" + head + `"n"//v//--x--/`}, // it is no file
	} {
		if got, err := Encode(c.l, c.b); got != crlf(c.want) || err != api.OK {
			t.Errorf("Encode(%#v, %q) is %q and %d, not %q", c.l, c.b, got, err, crlf(c.want))
		}
	}
	for _, b := range []string{"", "a_b", "\r\n", strings.Repeat("x", 71), "a", "b1", "form", "form-data", "-", "22", "0A"} {
		l := []api.Entry{pair("q", ""), pair("a\"\n", "b1")}
		if got, err := Encode(l, b); got != "" || err != api.ErrBound {
			t.Errorf("Encode(%#v, %q) is %q and %d", l, b, got, err)
		}
	}
	for i := range 256 {
		c := string([]byte{byte(i)})
		held(t, []api.Entry{pair(c, c), file(c, c, c, c), file("a"+c+"b", "a"+c+"b", "a"+c+"b", "a"+c+"b")}, "q")
	}
}

// held holds Clear, Encode and Told against the chapter's words, and Decode of Encode against Told.
func held(t *testing.T, l []api.Entry, b string) {
	t.Helper()
	if got, want := Clear(l, b), slowClear(l, b); got != want {
		t.Fatalf("Clear(%#v, %q) is %v", l, b, got)
	}
	want, wantErr := slowEncode(l, b)
	s, err := Encode(l, b)
	if s != want || err != wantErr {
		t.Fatalf("Encode(%#v, %q) is %q and %d, not %q and %d", l, b, s, err, want, wantErr)
	}
	told := Told(l)
	if want := slowTold(l); !slices.Equal(told, want) {
		t.Fatalf("Told(%#v) is %#v, not %#v", l, told, want)
	}
	if err != api.OK {
		return
	}
	if got, err := Decode(s, b); !slices.Equal(got, told) || err != api.OK {
		t.Fatalf("Decode(%q, %q) is %#v and %d, not %#v", s, b, got, err, told)
	}
}

func TestP20Words(t *testing.T) {
	each(pieces, 3, func(s string) {
		held(t, []api.Entry{pair(s, s), file(s, s, s, s)}, "x")
		held(t, []api.Entry{file("", s, "", ""), pair("", s)}, "q--")
	})
	r := rand.New(rand.NewSource(20))
	boundaries := []string{"x", "q", "--x", "x--", "0", "Z-", "22", "2", "A0", "form", "filename", "Content-Type", "-", "--", "---", "", "é", strings.Repeat("z", 70), strings.Repeat("z", 71)}
	for range 60000 {
		held(t, drawn(r), boundaries[r.Intn(len(boundaries))])
	}
}

// What stands ahead of // in a part of a = .., and of a file f, as crlf reads it.
const (
	aHead = `Content-Disposition: form-data; name="a"`
	fHead = `Content-Disposition: form-data; name="f"; filename="g"/Content-Type: h`
)

func TestP20_3(t *testing.T) {
	const head = `Content-Disposition: form-data; name=`
	for s, want := range map[string][]api.Entry{
		"--x--/":                                           nil,
		"--x/" + aHead + "//1/--x--/":                      {pair("a", "1")},
		"--x/" + aHead + "///--x--/":                       {pair("a", "")},
		"--x/" + head + `""///--x--/`:                      {{}},
		"--x/" + fHead + "//1/--x--/":                      {file("f", "g", "h", "1")},
		"--x/" + fHead + "///2/--x--/":                     {file("f", "g", "h", "\r\n2")},
		"--x/" + aHead + "//1/--x/" + aHead + "//2/--x--/": {pair("a", "1"), pair("a", "2")},
		"--x/" + aHead + "///--x/" + fHead + "//1/--x/" + aHead + "//2//--x--/":                                {pair("a", ""), file("f", "g", "h", "1"), pair("a", "2\r\n")},
		"--x/" + aHead + "///1//2//--x--/":                                                                     {pair("a", "\r\n1\r\n\r\n2\r\n")}, // cut at the first //
		"--x/" + aHead + "//" + fHead + "//3/--x--/":                                                           {pair("a", crlf(fHead)+"\r\n\r\n3")},
		"--x/" + aHead + "//\"%0A%22\n\r/--x--/":                                                               {pair("a", "\"%0A%22\n\r")}, // what is behind is as it is
		"--x/" + aHead + "//x--x/--x--/":                                                                       {pair("a", "x--x")},
		"--x/" + aHead + "//1--x/-x/--/x/--X/--x--/":                                                           {pair("a", "1--x\r\n-x\r\n--\r\nx\r\n--X")}, // no lines of the boundary
		"--x/" + aHead + "//1\n--x\r--x/\n--x/--x--/":                                                          {pair("a", "1\n--x\r--x\r\n\n--x")},         // not behind 13 and 10
		"--x/" + head + `"%0A%0D%22%0a%0d%%22%2"//%0A/--x--/`:                                                  {pair("\n\r\"%0a%0d%\"%2", "%0A")},          // small letters tell nothing
		"--x/" + head + `"%0%0AA%%0DD%2%222"///--x--/`:                                                         {pair("%0\nA%\rD%2\"2", "")},                // read once
		"--x/" + head + `"; filename="//v/--x--/`:                                                              {pair("; filename=", "v")},
		"--x/" + head + `""; filename=""/Content-Type: ///--x--/`:                                              {{File: true}}, // a type may be empty
		"--x/" + head + `"%0A"; filename="%0D%220"/Content-Type: "%0A ` + "\xff\t;//%22/--x--/":                {file("\n", "\r\"0", "\"%0A \xff\t;", "%22")},
		"--x/" + head + "\"é\xff\x00\t \"; filename=\"é\xff\x00\t \"/Content-Type: é\xff\x00\t //é\xff/--x--/": {file("é\xff\x00\t ", "é\xff\x00\t ", "é\xff\x00\t ", "é\xff")},
		"--x/" + head + `"a"; filename="b"/Content-Type:  ///--x--/`:                                           {file("a", "b", " ", "")},
		"--x/" + head + `"a"; filename="b"/Content-Type: text|plain; c="d"//1/--x--/`:                          {file("a", "b", `text/plain; c="d"`, "1")},
	} {
		if got, err := Decode(crlf(s), "x"); !slices.Equal(got, want) || err != api.OK {
			t.Errorf("Decode(%q) is %#v and %d, not %#v", crlf(s), got, err, want)
		}
	}
}

func TestP20_3Wrong(t *testing.T) {
	const head = `Content-Disposition: form-data; name=`
	for _, s := range []string{
		"", "/", "x", "--x", "--x/", "--x--", "--x--//", "/--x--/", " --x--/", "--x--/ ", "--X--/", "--y--/", "-x--/", "--x---/", "--x-/", "--x/--", "--x/--x--", "--xx--/",
		"--x/--x--/", "--x//--x--/", "--x///--x--/", "--x////--x--/", // no part, or an empty one
		aHead + "//1/--x--/", "x/" + aHead + "//1/--x--/", "--x" + aHead + "//1/--x--/", "--x /" + aHead + "//1/--x--/", "/--x/" + aHead + "//1/--x--/", "--y/" + aHead + "//1/--x--/",
		"--x/" + aHead + "//1", "--x/" + aHead + "//1/", "--x/" + aHead + "//1--x--/", "--x/" + aHead + "//1/--x--", "--x/" + aHead + "//1/--x/", "--x/" + aHead + "//1/--x-/", "--x/" + aHead + "//1/--y--/", "--x/" + aHead + "//1/--x--//", "--x/" + aHead + "//1/--x-- /",
		"--x/" + aHead + "/--x--/", "--x/" + aHead + "--x--/", "--x/" + aHead + "/1/--x--/", "--x/" + aHead + "//--x--/", "--x/" + aHead + "\n\n1/--x--/", "--x/" + aHead + "/\n1/--x--/", // no //
		"--x/" + aHead + "//1/--x2/--x--/", "--x/" + aHead + "//1/--x-/--x--/", "--x/" + aHead + "//1/--x--/--x--/", "--x/" + aHead + "//1/--x\n/--x--/", "--x/" + aHead + "//--x2/--x--/", "--x/" + fHead + "//1/--xy/--x--/", // /--B in it
		"--x/" + aHead + "//1/--x//--x--/", "--x/" + aHead + "//1/--x/--x/" + aHead + "//2/--x--/", "--x/" + aHead + "//1//--x/2/--x--/",
		"--x/" + aHead + "//1/--x/" + head + "//2/--x--/", "--x/" + head + "//1/--x/" + aHead + "//2/--x--/", // one of two
		"--x///" + aHead + "//1/--x--/", "--x/ " + aHead + "//1/--x--/", "--x/" + aHead + " //1/--x--/", "--x/" + aHead + ";//1/--x--/", "--x/" + aHead + "\r//1/--x--/", "--x/" + aHead + "\n//1/--x--/",
		"--x/content-disposition: form-data; name=\"a\"//1/--x--/", "--x/Content-Disposition:form-data; name=\"a\"//1/--x--/", "--x/Content-Disposition: form-data;name=\"a\"//1/--x--/", "--x/Content-Disposition: form-data; name=a//1/--x--/", "--x/Content-Disposition: file; name=\"a\"//1/--x--/", "--x/Content-Disposition: form-data//1/--x--/",
		"--x/" + head + `"a//1/--x--/`, "--x/" + head + `a"//1/--x--/`, "--x/" + head + `"a"b"//1/--x--/`, "--x/" + head + "\"a\rb\"//1/--x--/", "--x/" + head + "\"a\nb\"//1/--x--/", "--x/" + head + `"a/b"//1/--x--/`, "--x/" + head + `"a//b"//1/--x--/`,
		"--x/" + aHead + `; filename="b"//1/--x--/`,                                // no type
		"--x/" + aHead + "/Content-Type: c//1/--x--/",                              // no filename
		"--x/" + aHead + "/Content-Type: c//1/--x--/" + `; filename="b"//1/--x--/`, // nor behind it
		"--x/" + aHead + `; filename="b/Content-Type: c//1/--x--/`, "--x/" + aHead + `; filename=b/Content-Type: c//1/--x--/`, "--x/" + aHead + `;filename="b"/Content-Type: c//1/--x--/`, "--x/" + aHead + `; Filename="b"/Content-Type: c//1/--x--/`, "--x/" + aHead + `; filename="b"c"/Content-Type: c//1/--x--/`,
		"--x/" + aHead + "; filename=\"b\r\"/Content-Type: c//1/--x--/", "--x/" + aHead + "; filename=\"b\n\"/Content-Type: c//1/--x--/", "--x/" + aHead + `; filename="b/"/Content-Type: c//1/--x--/`, "--x/" + aHead + `; filename="b"; filename="b"/Content-Type: c//1/--x--/`,
		"--x/" + aHead + `; filename="b"Content-Type: c//1/--x--/`, "--x/" + aHead + `; filename="b"//Content-Type: c//1/--x--/`, "--x/" + aHead + `; filename="b"/Content-Type:c//1/--x--/`, "--x/" + aHead + "; filename=\"b\"/Content-Type:\tc//1/--x--/", "--x/" + aHead + `; filename="b"/content-type: c//1/--x--/`, "--x/" + aHead + `; filename="b"/Content-Type: c/1/--x--/`, "--x/" + aHead + "; filename=\"b\"/Content-Type: c\r//1/--x--/", "--x/" + aHead + "; filename=\"b\"/Content-Type: c\n//1/--x--/", "--x/" + aHead + "; filename=\"b\"\n\nContent-Type: c//1/--x--/", "--x/" + aHead + `; filename="b"/Content-Type: c/d//1/--x--/`,
	} {
		if got, err := Decode(crlf(s), "x"); got != nil || err != api.ErrForm {
			t.Errorf("Decode(%q) is %#v and %d", crlf(s), got, err)
		}
	}
	for _, b := range []string{"", "_", "a b", "é", "\r\n", strings.Repeat("x", 71)} {
		for _, s := range []string{"--" + b + "--/", "--" + b + "/" + aHead + "//1/--" + b + "--/"} {
			if got, err := Decode(crlf(s), b); got != nil || err != api.ErrForm {
				t.Errorf("Decode(%q, %q) is %#v and %d", crlf(s), b, got, err)
			}
		}
	}
	for _, b := range []string{"-", "--", "x-", "-x", "--x", "x--", "0", strings.Repeat("-", 70)} {
		s := crlf("--" + b + "/" + fHead + "//1//--" + b + "--/")
		if got, err := Decode(s, b); !slices.Equal(got, []api.Entry{file("f", "g", "h", "1\r\n")}) || err != api.OK {
			t.Errorf("Decode(%q, %q) is %#v and %d", s, b, got, err)
		}
		if got, err := Decode(s, "y"); got != nil || err != api.ErrForm {
			t.Errorf("Decode(%q, y) is %#v and %d", s, got, err)
		}
	}
}

// reads holds Decode against the chapter's words.
func reads(t *testing.T, s, b string) {
	t.Helper()
	want, wantErr := slowDecode(s, b)
	if got, err := Decode(s, b); !slices.Equal(got, want) || err != wantErr {
		t.Fatalf("Decode(%q, %q) is %#v and %d, not %#v and %d", s, b, got, err, want, wantErr)
	}
}

// Texts of pieces of parts, between lines of the boundary and without them.
func TestP20_3Words(t *testing.T) {
	tokens := []string{"--x", "--", "\r\n", "\r\n\r\n", `Content-Disposition: form-data; name="`, `"`, `; filename="`, "\r\nContent-Type: ", "%0A"}
	each(tokens, 4, func(s string) {
		reads(t, s, "x")
		reads(t, "--x\r\n"+s+"\r\n--x--\r\n", "x")
		reads(t, crlf("--x/"+aHead)+s+"\r\n--x--\r\n", "x")
		reads(t, crlf("--x/"+aHead+"//")+s+"\r\n--x--\r\n", "x")
		reads(t, crlf("--x/"+aHead)+"; filename=\""+s+"\r\n\r\n\r\n--x--\r\n", "x")
		reads(t, crlf("--x/"+aHead+"//1")+s+crlf(aHead+"//2/--x--/"), "x")
	})
	r := rand.New(rand.NewSource(203))
	for range 100000 {
		s := ""
		for range r.Intn(4) {
			s += crlf([]string{"--x/" + aHead + "//1/", "--x/" + fHead + "//1/"}[r.Intn(2)])
		}
		s = spoilt(r, s+"--x--\r\n", tokens)
		reads(t, s, "x")
	}
}

// spoilt is s with one run of it by another, or two.
func spoilt(r *rand.Rand, s string, tokens []string) string {
	for range r.Intn(3) {
		at := r.Intn(len(s) + 1)
		behind := min(len(s), at+r.Intn(4))
		put := []string{"", string([]byte{byte(r.Intn(256))}), tokens[r.Intn(len(tokens))]}[r.Intn(3)]
		s = s[:at] + put + s[behind:]
	}
	return s
}

// Each byte of a text by each other, each that is left out, and one of each put in.
func TestP20_3OneByte(t *testing.T) {
	s := crlf("--x/" + fHead + "//1/--x/" + aHead + "//2/--x--/")
	for i := range len(s) {
		reads(t, s[:i], "x")
		reads(t, s[i:], "x")
		reads(t, s[:i]+s[i+1:], "x")
		for c := range 256 {
			one := string([]byte{byte(c)})
			reads(t, s[:i]+one+s[i:], "x")
			reads(t, s[:i]+one+s[i+1:], "x")
		}
	}
}

func TestP20_4(t *testing.T) {
	const none = "application/octet-stream"
	for _, c := range []struct{ in, want []api.Entry }{
		{nil, nil}, {[]api.Entry{}, nil},
		{[]api.Entry{{}}, []api.Entry{{}}},
		{[]api.Entry{pair("a", "1"), pair("a", "1")}, []api.Entry{pair("a", "1"), pair("a", "1")}},
		{[]api.Entry{pair("a\nb\rc\r\nd", "\n\r\r\n")}, []api.Entry{pair("a\r\nb\r\nc\r\nd", "\r\n\r\n\r\n")}},
		{[]api.Entry{pair("\"", "\"")}, []api.Entry{pair("\"", "\"")}},
		{[]api.Entry{pair("%0A%0D%22%0a", "%0A%0D%22")}, []api.Entry{pair("\n\r\"%0a", "%0A%0D%22")}}, // what is read isn't what was told
		{[]api.Entry{pair("%%0A%\n", "")}, []api.Entry{pair("%\n%\r\n", "")}},
		{[]api.Entry{{Name: "n", Value: "v\r", FileName: "w", Type: "t"}}, []api.Entry{pair("n", "v\r\n")}}, // it is no file
		{[]api.Entry{{File: true}}, []api.Entry{file("", "", none, "")}},
		{[]api.Entry{file("f\n", "g\r\"%22", "t/u; v=\"w\"", "\n\r\"%22")}, []api.Entry{file("f\r\n", "g\r\n\"\"", "t/u; v=\"w\"", "\n\r\"%22")}},
		{[]api.Entry{file("", "", "\x1f", ""), file("", "", " ", ""), file("", "", "~", ""), file("", "", "\x7f", "")}, []api.Entry{file("", "", none, ""), file("", "", " ", ""), file("", "", "~", ""), file("", "", none, "")}},
		{[]api.Entry{file("", "", "a\tb", ""), file("", "", "aé", ""), file("", "", "\xffa", ""), file("", "", "a\x00", ""), file("", "", "%0A", "")}, []api.Entry{file("", "", none, ""), file("", "", none, ""), file("", "", none, ""), file("", "", none, ""), file("", "", "%0A", "")}},
	} {
		if got := Told(c.in); !slices.Equal(got, c.want) {
			t.Errorf("Told(%#v) is %#v, not %#v", c.in, got, c.want)
		}
		s, err := Encode(c.in, "Q")
		if got, e := Decode(s, "Q"); !slices.Equal(got, c.want) || err != api.OK || e != api.OK {
			t.Errorf("Decode of Encode(%#v) is %#v, %d and %d, not %#v", c.in, got, err, e, c.want)
		}
	}
	every := allBytes()
	held(t, []api.Entry{pair(every, every), file(every, every, every, every)}, strings.Repeat("q", 70))
}

// Much is done in a time that grows no faster than it: else this wouldn't end.
func TestR1Much(t *testing.T) {
	many := 1 << 18
	l := slices.Repeat([]api.Entry{pair("\n", "\n"), file("\"", "", "", "\r")}, many)
	told := Told(l)
	s, err := Encode(l, "q")
	if got, e := Decode(s, "q"); err != api.OK || e != api.OK || !slices.Equal(got, told) {
		t.Errorf("%d entries, %d and %d", len(got), err, e)
	}
	nearly := strings.Repeat("-", 69) + "q" // stands nearly at each place of the value
	for _, value := range []string{strings.Repeat("-", 1<<20), strings.Repeat("\r\n--"+nearly[:69], 1<<13), strings.Repeat("\r\n", 1<<19)} {
		held(t, []api.Entry{pair("", value)}, nearly)
	}
	for _, s := range []string{"--q\r\n", "\r\n--q\r\n", "\r\n--q", "\r\n", crlf("--q/" + aHead + "///")} {
		if got, err := Decode("--q\r\n"+strings.Repeat(s, 1<<20)+"\r\n--q--\r\n", "q"); got != nil || err != api.ErrForm {
			t.Errorf("Decode of many %q is %d entries and %d", s, len(got), err)
		}
	}
	draws := slices.Repeat([]string{"form"}, 1<<20)
	if b, err := Choose(l, draws); b != "" || err != api.ErrBound {
		t.Errorf("Choose is %q and %d", b, err)
	}
}

// roomyList has spare room behind it.
func roomyList() []api.Entry {
	l := []api.Entry{pair("name", "value"), file("file", "file.txt", "text/plain", "content"), file("none", "", "", ""), file("some", "s", "t\n", "u"), pair("two\nlines", "nothing\r\n")}
	return append(slices.Clone(l), pair("spare", "room"), file("spare", "room", "", ""))[:len(l)]
}

func TestR4Lists(t *testing.T) {
	l := roomyList()
	was := slices.Clone(l[:cap(l)])
	draws := []string{"form", "q", "z", "w"}[:2]
	s, _ := Encode(l, "q")
	spoil := func(list []api.Entry) {
		for i := range list[:cap(list)] {
			list[:cap(list)][i] = pair("spoilt", "spoilt")
		}
	}
	first, second := Told(l), Told(l)
	want := slices.Clone(second)
	spoil(first)
	if !slices.Equal(second, want) || !slices.Equal(Told(l), want) {
		t.Errorf("Told is %#v, then %#v, not %#v", second, Told(l), want)
	}
	read, _ := Decode(s, "q")
	spoil(read)
	if got, err := Decode(s, "q"); !slices.Equal(got, want) || err != api.OK {
		t.Errorf("Decode is %#v and %d, not %#v", got, err, want)
	}
	if b, err := Choose(l, draws); b != "q" || err != api.OK || !Clear(l, b) {
		t.Errorf("Choose is %q and %d", b, err)
	}
	if !slices.Equal(l[:cap(l)], was) || !slices.Equal(draws[:4], []string{"form", "q", "z", "w"}) {
		t.Error("what was handed in is changed")
	}
}

// TestR4Texts holds that no text that is answered lies where another one does, nor where one that was handed in does, even where nothing had to be changed.
func TestR4Texts(t *testing.T) {
	var taken []string
	alone := func(name, s string) {
		for _, other := range taken {
			if s != "" && (within(s, other) || within(other, s)) {
				t.Errorf("%s: %q shares memory with %q", name, s, other)
			}
		}
		taken = append(taken, s)
	}
	l, draws := roomyList(), []string{"q", "qq"}
	s, _ := Encode(l, "q")
	taken = append(taken, s, unknownType, draws[0], draws[1])
	for _, e := range l {
		taken = append(taken, e.Name, e.Value, e.FileName, e.Type)
	}
	for range 2 {
		read, _ := Decode(s, "q")
		for _, e := range slices.Concat(Told(l), read) {
			alone("Name", e.Name)
			alone("Value", e.Value)
			alone("FileName", e.FileName)
			alone("Type", e.Type)
		}
		for _, some := range [][]api.Entry{nil, l[:1], l} {
			b, _ := Choose(some, draws)
			alone("Choose", b)
			encoded, _ := Encode(some, "q")
			alone("Encode", encoded)
		}
	}
}

// within tells whether part begins in the memory of whole.
func within(part, whole string) bool {
	at, from := uintptr(unsafe.Pointer(unsafe.StringData(part))), uintptr(unsafe.Pointer(unsafe.StringData(whole)))
	return at >= from && at < from+uintptr(len(whole))
}
