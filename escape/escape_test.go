package escape

import (
	"fmt"
	"math"
	"regexp"
	"strconv"
	"strings"
	"testing"

	"counterfoil/api"
)

// kept are the signs from 32 to 126 that each set leaves as they are, written out by another way than the program's: by what stays.
var kept = [8]string{
	" !\"#$%&'()*+,-./0123456789:;<=>?@ABCDEFGHIJKLMNOPQRSTUVWXYZ[\\]^_`abcdefghijklmnopqrstuvwxyz{|}~",
	"!#$%&'()*+,-./0123456789:;=?@ABCDEFGHIJKLMNOPQRSTUVWXYZ[\\]^_abcdefghijklmnopqrstuvwxyz{|}~",
	"!$%&'()*+,-./0123456789:;=?@ABCDEFGHIJKLMNOPQRSTUVWXYZ[\\]^_`abcdefghijklmnopqrstuvwxyz{|}~",
	"!$%&()*+,-./0123456789:;=?@ABCDEFGHIJKLMNOPQRSTUVWXYZ[\\]^_`abcdefghijklmnopqrstuvwxyz{|}~",
	"!$%&'()*+,-./0123456789:;=@ABCDEFGHIJKLMNOPQRSTUVWXYZ[\\]_abcdefghijklmnopqrstuvwxyz|~",
	"!$%&'()*+,-.0123456789ABCDEFGHIJKLMNOPQRSTUVWXYZ_abcdefghijklmnopqrstuvwxyz~",
	"!'()*-.0123456789ABCDEFGHIJKLMNOPQRSTUVWXYZ_abcdefghijklmnopqrstuvwxyz~",
	"*-.0123456789ABCDEFGHIJKLMNOPQRSTUVWXYZ_abcdefghijklmnopqrstuvwxyz",
}

var notSets = []int{-1, 8, 9, -8, 255, 256, 1 << 32, math.MinInt, math.MaxInt}

func allBytes() string {
	b := make([]byte, 256)
	for i := range b {
		b[i] = byte(i)
	}
	return string(b)
}

// each goes through all texts of up to five pieces: escapes whole and cut, digits, near digits, signs that sets differ in, and bytes that are no sign.
func each(f func(s string)) {
	pieces := []string{"%", "+", " ", "2", "B", "b", "0", "g", "%25", "é", "\xff", "\x00"}
	var grow func(s string, left int)
	grow = func(s string, left int) {
		f(s)
		if left == 0 {
			return
		}
		for _, p := range pieces {
			grow(s+p, left-1)
		}
	}
	grow("", 5)
}

// slowEncode works by kept alone.
func slowEncode(s string, set int) string {
	out := ""
	for i := range len(s) {
		if strings.IndexByte(kept[set], s[i]) >= 0 {
			out += s[i : i+1]
		} else {
			out += fmt.Sprintf("%%%02X", s[i])
		}
	}
	return out
}

var anEscape = regexp.MustCompile(`%[0-9A-Fa-f]{2}`)

func slowDecode(s string) string {
	return anEscape.ReplaceAllStringFunc(s, func(e string) string {
		c, err := strconv.ParseUint(e[1:], 16, 8)
		if err != nil {
			panic(err)
		}
		return string([]byte{byte(c)})
	})
}

type change struct{ in, want string }

func expect(t *testing.T, name string, f func(string) string, all []change) {
	t.Helper()
	for _, c := range all {
		if got := f(c.in); got != c.want {
			t.Errorf("%s(%q) is %q, not %q", name, c.in, got, c.want)
		}
	}
}

func TestP2_1Escapes(t *testing.T) {
	for set := range 8 {
		for i := range 256 {
			want := strings.IndexByte(kept[set], byte(i)) < 0
			if Escapes(set, byte(i)) != want {
				t.Errorf("Escapes(%d, %d) is not %v", set, i, want)
			}
		}
	}
	for _, set := range notSets {
		for i := range 256 {
			if Escapes(set, byte(i)) {
				t.Errorf("Escapes(%d, %d) is true, and there is no such set", set, i)
			}
		}
	}
}

// The rows of the chapter's table, sign by sign.
func TestP2_1Table(t *testing.T) {
	query := " \"#<>"
	path := query + "?^{}`"
	user := path + "/:;=@[\\]|"
	for set, signs := range []string{"", " \"<>`", query, query + "'", path, user, user + "$%&+,"} {
		got := ""
		for c := byte(32); c <= 126; c++ {
			if Escapes(set, c) {
				got += string([]byte{c})
			}
		}
		if len(got) != len(signs) {
			t.Errorf("set %d escapes %q, not those of %q", set, got, signs)
		}
		for _, sign := range signs {
			if !strings.ContainsRune(got, sign) {
				t.Errorf("set %d doesn't escape %q", set, sign)
			}
		}
	}
}

func TestP2_1Encode(t *testing.T) {
	for _, c := range []struct {
		in   string
		set  int
		want string
	}{
		{"", 0, ""}, {"", 7, ""},
		{"a/b", 4, "a/b"}, {"a/b", 5, "a%2Fb"},
		{"a b", 0, "a b"}, {"a b", 1, "a%20b"}, {"a b", 7, "a%20b"}, // a blank is no + here
		{"it's", 2, "it's"}, {"it's", 3, "it%27s"}, {"it's", 6, "it's"}, {"it's", 7, "it%27s"},
		{"50%", 5, "50%"}, {"50%", 6, "50%25"}, {"%41", 0, "%41"}, {"%41", 6, "%2541"}, // what is like an escape already
		{"\x1f ~\x7f", 0, "%1F ~%7F"}, {"\x00\x0a\xa0\xff", 0, "%00%0A%A0%FF"}, // the edges, and the higher digit first
		{"é", 0, "%C3%A9"}, {"\xc3", 1, "%C3"}, {"\U0001f600", 7, "%F0%9F%98%80"}, // byte by byte, UTF-8 or not
		{"a*b-c.d_e~f", 7, "a*b-c.d_e%7Ef"}, {"a+b", 5, "a+b"}, {"a+b", 6, "a%2Bb"},
	} {
		if got, e := Encode(c.in, c.set); got != c.want || e != api.OK {
			t.Errorf("Encode(%q, %d) is %q and %d, not %q", c.in, c.set, got, e, c.want)
		}
	}
	for set := range 8 {
		if got, e := Encode(allBytes(), set); got != slowEncode(allBytes(), set) || e != api.OK {
			t.Errorf("Encode of all bytes by %d is %q and %d", set, got, e)
		}
	}
	for _, set := range notSets {
		for _, s := range []string{"", "a", " \xff"} {
			if got, e := Encode(s, set); got != "" || e != api.ErrKind {
				t.Errorf("Encode(%q, %d) is %q and %d", s, set, got, e)
			}
		}
	}
}

func TestP2_1EncodeAll(t *testing.T) {
	each(func(s string) {
		for set := range 8 {
			if got, e := Encode(s, set); got != slowEncode(s, set) || e != api.OK {
				t.Fatalf("Encode(%q, %d) is %q and %d", s, set, got, e)
			}
		}
	})
}

func TestP2_2Decode(t *testing.T) {
	expect(t, "Decode", Decode, []change{
		{"", ""}, {"abc", "abc"}, {"%41%4g%", "A%4g%"}, {"%%41%2", "%A%2"},
		{"%41", "A"}, {"%4A%4a", "JJ"}, {"%c3%A9", "é"}, {"%Ff%fF", "\xff\xff"}, {"%00", "\x00"}, {"%0a%A0", "\n\xa0"},
		{"%", "%"}, {"%%", "%%"}, {"%%%", "%%%"}, {"%4", "%4"}, {"a%4", "a%4"}, {"%g1", "%g1"}, {"%1g", "%1g"}, // no escapes
		{"%/0", "%/0"}, {"%:0", "%:0"}, {"%@0", "%@0"}, {"%G0", "%G0"}, {"%`0", "%`0"}, {"%0/", "%0/"}, {"%0G", "%0G"}, // the neighbours of the digits
		{"% 1", "% 1"}, {"%+1", "%+1"}, {"%-1", "%-1"}, {"%0x", "%0x"}, {"%u0041", "%u0041"}, {"%\xc3\xa9", "%\xc3\xa9"},
		{"%2541", "%41"}, {"%25%34%31", "%41"}, {"%%32%35", "%25"}, {"%4%31", "%41"}, // what an escape makes isn't read again
		{"+%20+", "+ +"}, {"\xff%ff\xff", "\xff\xff\xff"},
		{"x%41y%42z", "xAyBz"}, {"%4141", "A41"}, {"%414%42", "A4B"},
	})
}

func TestP2_2DecodeAll(t *testing.T) {
	each(func(s string) {
		if got, want := Decode(s), slowDecode(s); got != want {
			t.Fatalf("Decode(%q) is %q, not %q", s, got, want)
		}
	})
	for high := range 256 {
		for low := range 256 {
			s := string([]byte{'a', '%', byte(high), byte(low), 'b'})
			if got, want := Decode(s), slowDecode(s); got != want {
				t.Fatalf("Decode(%q) is %q, not %q", s, got, want)
			}
		}
	}
}

func TestP2_3Form(t *testing.T) {
	expect(t, "Form", Form, []change{
		{"", ""}, {"a b&é", "a+b%26%C3%A9"}, {"aZ09*-._", "aZ09*-._"},
		{" ", "+"}, {"  ", "++"}, {" a ", "+a+"}, {"+", "%2B"}, {"+ +", "%2B+%2B"},
		{"%20", "%2520"}, {"% 20", "%25+20"}, {"%2 0", "%252+0"}, // only a blank is a +
		{"~!'()", "%7E%21%27%28%29"}, {"\t\r\n\u00a0", "%09%0D%0A%C2%A0"}, {"\xff\x00", "%FF%00"},
	})
	plus := strings.NewReplacer("%20", "+")
	each(func(s string) {
		if got, want := Form(s), plus.Replace(slowEncode(s, 7)); got != want {
			t.Fatalf("Form(%q) is %q, not %q", s, got, want)
		}
	})
}

func TestP2_3Unform(t *testing.T) {
	expect(t, "Unform", Unform, []change{
		{"", ""}, {"a+b%26%c3%A9%2b", "a b&é+"}, {"+", " "}, {"++a+", "  a "}, {"a b", "a b"},
		{"%2B", "+"}, {"%2b+%2B", "+ +"}, {"%252B", "%2B"}, // a + that an escape makes stays
		{"%20", " "}, {"%", "%"}, {"%+", "% "}, {"%+20", "% 20"}, {"%2+0", "%2 0"}, {"%4g+", "%4g "},
		{"\xff+%ff", "\xff \xff"},
	})
	each(func(s string) {
		if got, want := Unform(s), slowDecode(strings.Join(strings.Split(s, "+"), " ")); got != want {
			t.Fatalf("Unform(%q) is %q, not %q", s, got, want)
		}
	})
}

func TestP2_4(t *testing.T) {
	back := func(s string) {
		for _, set := range []int{6, 7} {
			encoded, e := Encode(s, set)
			if got := Decode(encoded); got != s || e != api.OK {
				t.Fatalf("Decode of Encode(%q, %d) is %q (%d)", s, set, got, e)
			}
		}
		if got := Unform(Form(s)); got != s {
			t.Fatalf("Unform of Form(%q) is %q", s, got)
		}
	}
	each(back)
	back(allBytes())
	back(strings.Repeat("100% \xffé+", 4000))
	for a := range 256 {
		for b := range 256 {
			back(string([]byte{byte(a), byte(b)}))
			back(string([]byte{'%', byte(a), byte(b)}))
		}
	}
}

// What is answered is new memory (rule R4), even where nothing had to be changed.
func TestAnswersAreNew(t *testing.T) {
	s := strings.Repeat("nothing-to-change.", 10)
	encode := func(s string) string {
		out, _ := Encode(s, 0)
		return out
	}
	var got string
	for name, f := range map[string]func(string) string{"Encode": encode, "Decode": Decode, "Form": Form, "Unform": Unform} {
		if testing.AllocsPerRun(10, func() { got = f(s) }) < 1 {
			t.Errorf("%s answers memory that isn't its own", name)
		}
		if got != s {
			t.Errorf("%s changed a text that has nothing to change: %q", name, got)
		}
	}
}
