package text

import (
	"regexp"
	"strings"
	"testing"
	"unicode/utf16"
)

// each goes through all texts of up to five pieces: blanks, bytes that are like blanks but are none, letters, a sign of two bytes in pieces, and bytes that begin no sign.
func each(f func(s string)) {
	pieces := []string{"\r", "\n", "\t", "\f", " ", "\v", "a", "Z", "\xc3", "\xa9", "\xff", "\U0001f600"}
	var grow func(s string, left int)
	grow = func(s string, left int) {
		f(s)
		if left == 0 {
			return
		}
		for _, p := range pieces {
			grow(s+p, left-1)
		}
	}
	grow("", 5)
}

type change struct{ in, want string }

func expect(t *testing.T, name string, f func(string) string, all []change) {
	t.Helper()
	for _, c := range all {
		if got := f(c.in); got != c.want {
			t.Errorf("%s(%q) is %q, not %q", name, c.in, got, c.want)
		}
	}
}

func allBytes() string {
	b := make([]byte, 256)
	for i := range b {
		b[i] = byte(i)
	}
	return string(b)
}

func TestP1_1Valid(t *testing.T) {
	for _, s := range []string{"", "a", "\x00", "\x7f", "é", "\u07ff", "\u0800", "\ud7ff", "\ue000", "\ufffd", "\uffff", "\U00010000", "\U0010ffff", "aé\u20ac\U0001f600"} {
		if !Valid(s) {
			t.Errorf("Valid(%q) is false", s)
		}
	}
	wrong := []string{
		"\x80", "\xbf", "\xff", "\xfe", "a\xffb", // bytes that begin no sign
		"\xc3", "\xe2\x82", "\xf0\x9f\x98", "é\xc3", "\xc3a", // signs that are cut off
		"\xc0\x80", "\xc1\xbf", "\xe0\x80\x80", "\xe0\x9f\xbf", "\xf0\x80\x80\x80", "\xf0\x8f\xbf\xbf", // longer than need be
		"\xed\xa0\x80", "\xed\xbf\xbf", // halves of pairs
		"\xf4\x90\x80\x80", "\xf5\x80\x80\x80", "\xf8\x88\x80\x80\x80", // above 10FFFF
	}
	for _, s := range wrong {
		if Valid(s) {
			t.Errorf("Valid(%q) is true", s)
		}
	}
	each(func(s string) {
		if want := string([]rune(s)) == s; Valid(s) != want {
			t.Fatalf("Valid(%q) is not %v", s, want)
		}
	})
}

func TestP1_1Lower(t *testing.T) {
	expect(t, "Lower", Lower, []change{
		{"", ""}, {"AbYz", "abyz"}, {"A", "a"}, {"Z", "z"},
		{"@[`{09-_", "@[`{09-_"},                                                       // the neighbours of the letters
		{"ÉÀΩЖ", "ÉÀΩЖ"}, {"\u212a\u0130", "\u212a\u0130"}, {"ÉB\u212aC", "Éb\u212ac"}, // signs beyond ASCII
		{"\xffA\xc3B\x80", "\xffa\xc3b\x80"}, {"\xc1\xda", "\xc1\xda"}, // not UTF-8
	})
	low := Lower(allBytes())
	if len(low) != 256 {
		t.Fatalf("Lower of all bytes has %d", len(low))
	}
	for i := range 256 {
		want := byte(i)
		if i >= 65 && i <= 90 {
			want += 32
		}
		if low[i] != want {
			t.Errorf("Lower makes %d of the byte %d", low[i], i)
		}
	}
}

func TestP1_1Same(t *testing.T) {
	for _, c := range []struct {
		a, b string
		want bool
	}{
		{"", "", true}, {"Ab", "aB", true}, {"text/PLAIN", "TEXT/plain", true}, {"é", "é", true}, {"\xffA", "\xffa", true},
		{"", "a", false}, {"a", "", false}, {"a", "ab", false}, {"ab", "a", false}, {"a", "b", false}, {"a ", "a", false},
		{"é", "É", false}, {"K", "\u212a", false}, {"k", "\u212a", false}, {"s", "\u017f", false}, // no folding beyond ASCII
		{"@", "`", false}, {"[", "{", false}, {"\xff", "\xfe", false}, {"\xff", "\ufffd", false}, {"\xc1", "\xe1", false},
	} {
		if Same(c.a, c.b) != c.want {
			t.Errorf("Same(%q, %q) is not %v", c.a, c.b, c.want)
		}
	}
}

func TestP1_2Lines(t *testing.T) {
	expect(t, "Lines", Lines, []change{
		{"", ""}, {"ab", "ab"},
		{"\r", "\n"}, {"\n", "\n"}, {"\r\n", "\n"}, // an end alone
		{"\n\r", "\n\n"}, {"\r\r", "\n\n"}, {"\n\n", "\n\n"}, {"\r\r\n", "\n\n"}, {"\r\n\n", "\n\n"}, {"\r\n\r", "\n\n"}, {"\r\n\r\n", "\n\n"}, {"\n\r\n", "\n\n"}, {"\r\n\r\r\n\n", "\n\n\n\n"}, // one behind the other
		{"a\rb\n\r\nc\r", "a\nb\n\nc\n"}, {"\r\na\r\n", "\na\n"}, {"\na", "\na"}, {"a\r", "a\n"}, // at the ends
		{"\ra\n", "\na\n"}, {"\r \n", "\n \n"}, // not a pair
		{"\t\f\v \u0085\u2028", "\t\f\v \u0085\u2028"}, // no ends of lines
		{"\xff\r\n\xc3\r\xa9", "\xff\n\xc3\n\xa9"},     // not UTF-8
	})
	plain := strings.NewReplacer("\r\n", "\n", "\r", "\n")
	each(func(s string) {
		if got, want := Lines(s), plain.Replace(s); got != want {
			t.Fatalf("Lines(%q) is %q, not %q", s, got, want)
		}
	})
}

func TestP1_2Pairs(t *testing.T) {
	expect(t, "Pairs", Pairs, []change{
		{"", ""}, {"ab", "ab"},
		{"\r", "\r\n"}, {"\n", "\r\n"}, {"\r\n", "\r\n"},
		{"\n\r", "\r\n\r\n"}, {"\r\r", "\r\n\r\n"}, {"\n\n", "\r\n\r\n"}, {"\r\r\n", "\r\n\r\n"}, {"\r\n\n", "\r\n\r\n"}, {"\r\n\r", "\r\n\r\n"}, {"\n\r\n", "\r\n\r\n"},
		{"a\rb\n\r\nc", "a\r\nb\r\n\r\nc"}, {"\na\r", "\r\na\r\n"},
		{"\ra\n", "\r\na\r\n"},
		{"\t\f\v \u0085\u2028", "\t\f\v \u0085\u2028"},
		{"\xff\r\n\xc3\r\xa9", "\xff\r\n\xc3\r\n\xa9"},
	})
	plain := strings.NewReplacer("\r\n", "\r\n", "\r", "\r\n", "\n", "\r\n")
	each(func(s string) {
		if got, want := Pairs(s), plain.Replace(s); got != want {
			t.Fatalf("Pairs(%q) is %q, not %q", s, got, want)
		}
	})
}

func TestP1_2NoBreaks(t *testing.T) {
	expect(t, "NoBreaks", NoBreaks, []change{
		{"", ""}, {"ab", "ab"}, {"\r\n", ""}, {"\n\r\r\n\n", ""},
		{"a\r\nb\r", "ab"}, {"\na\rb\n", "ab"},
		{" \ta\f \v\u0085\u2028", " \ta\f \v\u0085\u2028"},
		{"\xff\n\xc3\r\xa9", "\xff\xc3\xa9"},
	})
	plain := strings.NewReplacer("\r", "", "\n", "")
	each(func(s string) {
		if got, want := NoBreaks(s), plain.Replace(s); got != want {
			t.Fatalf("NoBreaks(%q) is %q, not %q", s, got, want)
		}
	})
}

func TestP1_3Strip(t *testing.T) {
	expect(t, "Strip", Strip, []change{
		{"", ""}, {"a", "a"}, {" ", ""}, {"\t\n\f\r ", ""},
		{"\t\n\f\r a\t\n\f\r b \r\f\n\t", "a\t\n\f\r b"}, // all five, those within stay
		{" a", "a"}, {"a ", "a"}, {"\f a b\r\n", "a b"},
		{"\v", "\v"}, {" \v ", "\v"}, {"\x00 a \x00", "\x00 a \x00"}, {" \u00a0a\u3000 ", "\u00a0a\u3000"}, {"\u0085 ", "\u0085"}, {"\b\x0e\x1f", "\b\x0e\x1f"}, // no blanks
		{" \xff ", "\xff"}, {"\xc3 \xa0", "\xc3 \xa0"}, {" \xa0\x85 ", "\xa0\x85"}, // not UTF-8
	})
	ends := regexp.MustCompile("^[\t\n\f\r ]+|[\t\n\f\r ]+$")
	each(func(s string) {
		if got, want := Strip(s), ends.ReplaceAllString(s, ""); got != want {
			t.Fatalf("Strip(%q) is %q, not %q", s, got, want)
		}
	})
}

func TestP1_3Collapse(t *testing.T) {
	expect(t, "Collapse", Collapse, []change{
		{"", ""}, {" ", ""}, {"\t\n\f\r ", ""}, {"a", "a"}, {"a b", "a b"},
		{"  a \t b ", "a b"}, {"One  two", "One two"},
		{"a\tb\nc\fd\re f", "a b c d e f"}, {"a\r\nb", "a b"}, {"a\t\n\f\r b", "a b"},
		{"a\vb \v c", "a\vb \v c"}, {"a\u00a0 \u00a0b", "a\u00a0 \u00a0b"},
		{" \xff \n \xc3\t\xa9 ", "\xff \xc3 \xa9"},
	})
	ends := regexp.MustCompile("^[\t\n\f\r ]+|[\t\n\f\r ]+$")
	runs := regexp.MustCompile("[\t\n\f\r ]+")
	each(func(s string) {
		if got, want := Collapse(s), runs.ReplaceAllString(ends.ReplaceAllString(s, ""), " "); got != want {
			t.Fatalf("Collapse(%q) is %q, not %q", s, got, want)
		}
	})
}

func TestP1_3OneByte(t *testing.T) {
	blank := map[int]bool{9: true, 10: true, 12: true, 13: true, 32: true}
	for i := range 256 {
		c := string([]byte{byte(i)})
		strip, within := c, "a"+c+"b"
		if blank[i] {
			strip, within = "", "a b"
		}
		if Strip(c) != strip || Collapse(c) != strip || Collapse("a"+c+"b") != within {
			t.Errorf("byte %d: Strip %q, Collapse %q, within %q", i, Strip(c), Collapse(c), Collapse("a"+c+"b"))
		}
	}
}

func TestP1_4Units(t *testing.T) {
	for s, want := range map[string]int{
		"": 0, "a": 1, "\x00": 1, "\x7f": 1, "é": 1, "\u20ac": 1, "\ufffd": 1, "\r\n": 2,
		"\uffff": 1, "\U00010000": 2, "\U0001f600": 2, "\U0010ffff": 2, // both sides of FFFF
		"e\u0301": 2, "a\U0001f600é\xff": 5,
		"\xff": 1, "\x80\x80": 2, "\xc3": 1, "\xc3a": 2, "\xf0\x9f\x98": 3, "\xed\xa0\x80": 3, "\xc0\x80": 2, "\xf4\x90\x80\x80": 4, // bytes that begin no sign
		"\xed\xa0\xbd\xed\xb8\x80": 6, // a pair told in two signs is none
	} {
		if got := Units(s); got != want {
			t.Errorf("Units(%q) is %d, not %d", s, got, want)
		}
	}
	if got := Units(strings.Repeat("\U0001f600", 4000)); got != 8000 {
		t.Errorf("Units of 4000 signs is %d", got)
	}
	each(func(s string) {
		if got, want := Units(s), len(utf16.Encode([]rune(s))); got != want {
			t.Fatalf("Units(%q) is %d, not %d", s, got, want)
		}
	})
}

func TestP1_5(t *testing.T) {
	again := map[string]func(string) string{"Lower": Lower, "Lines": Lines, "Pairs": Pairs, "NoBreaks": NoBreaks, "Strip": Strip, "Collapse": Collapse}
	each(func(s string) {
		for name, f := range again {
			if once := f(s); f(once) != once {
				t.Fatalf("%s(%q) is %q, and once more %q", name, s, once, f(once))
			}
		}
		if Lines(Pairs(s)) != Lines(s) {
			t.Fatalf("Lines of Pairs of %q is %q", s, Lines(Pairs(s)))
		}
		if Pairs(Lines(s)) != Pairs(s) {
			t.Fatalf("Pairs of Lines of %q is %q", s, Pairs(Lines(s)))
		}
	})
}

// What is answered is new memory (rule R4), even where nothing had to be changed.
func TestAnswersAreNew(t *testing.T) {
	s := strings.Repeat("nothing to change ", 10) + "here"
	var kept string
	for name, f := range map[string]func(string) string{"Lower": Lower, "Lines": Lines, "Pairs": Pairs, "NoBreaks": NoBreaks, "Strip": Strip, "Collapse": Collapse} {
		if testing.AllocsPerRun(10, func() { kept = f(s) }) < 1 {
			t.Errorf("%s answers memory that isn't its own", name)
		}
		if kept != s {
			t.Errorf("%s changed a text that has nothing to change: %q", name, kept)
		}
	}
}
