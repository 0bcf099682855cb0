package mail

import (
	"regexp"
	"strings"
	"testing"
	"unsafe"
)

// shape, ends and breaks are the chapter's words, once more, by expressions.
var (
	shape  = regexp.MustCompile("\\A[a-zA-Z0-9.!#$%&'*+/=?^_`{|}~-]+@" + label + `(\.` + label + `)*\z`)
	ends   = regexp.MustCompile("\\A[\t\n\f\r ]+|[\t\n\f\r ]+\\z")
	breaks = regexp.MustCompile("[\r\n]")
)

const label = `[a-zA-Z0-9]([a-zA-Z0-9-]{0,61}[a-zA-Z0-9])?`

var (
	x62 = strings.Repeat("x", 62)
	x63 = strings.Repeat("x", 63)
	x64 = strings.Repeat("x", 64)
)

var addresses = []string{
	"a.b@c-d.e", "a@b", "A@B", "z@z", "Z@Z", "0@0", "9@9", "me@here.example", "a@1.2.3.4", "a@b.c.d.e.f",
	".@b", "..@b", ".a@b", "a.@b", "a..b@c", "-@b", "-a-@b", "`@b", "!#$%&'*+/=?^_{|}~-`.@b", "a+b@c", "o'b@c", "{|}~@b", "%40@b",
	"a@b-c", "a@b--c", "a@b---c.d--e", "a@xn--bcher-kva.example", "a@0-0", "a@a.0.b",
	"a@" + x63, "a@" + x62, "a@" + x63 + "." + x63 + "." + x63 + "." + x63 + "." + x63, "a@b." + x63, "a@" + x63 + ".b", "a@x" + strings.Repeat("-", 61) + "x",
	x64 + "@b", strings.Repeat("a", 5000) + "@b", "a@" + strings.Repeat("b.", 5000) + "c",
}

var noAddresses = []string{
	"", "@", "a", "a@", "@b", "@@", "a@@b", "a@b@c", "a@b@", "@a@b", "a@b.c@d", "a.b",
	"a@-b", "a@b-", "a@-", "a@--", "a@-b-", "a@b.-c", "a@b.c-", "a@b-.c", "a@-b.c", "a@b.-.c",
	"a@.", "a@.b", "a@b.", "a@b..c", "a@..", "a@.b.", "@.",
	"a@b c", "a b@c", " a@b", "a@b ", "a @b", "a@ b", "\ta@b", "a@b\n", "a@b\r", "\na@b", "a@b\x00", "\x00a@b", "a\n@b", "a@b.c\n", "a@b\f", "a@b\v",
	"a@b,c@d", "a@b,", ",a@b", "a,b@c", "a@b;c@d", "a;b@c",
	"a@b_c", "a@b+c", "a@b!", "a@[1.2.3.4]", "a@b:25", "a@b/c", "a@b`", "a@*", "a@%62",
	"(a)@b", "a(b)@c", "\"a\"@b", "a\\b@c", "<a@b>", "a:b@c", "mailto:a@b", "[a]@b", "a>@b", "a\x7f@b", "a@b\x7f",
	"é@b", "a@é", "a@bücher", "a\u00e9@b", "\uff41@b", "a@\uff42", "a@b\u3002c", "\u212a@b", "a@\u212a", "\u0661@b", "a@\u0661", "a\uff20b", "\xff@b", "a@\xff", "a@b\xff", "\xc3@b", "a\u00a0@b",
	"a@" + x64, "a@" + x63 + "x.b", "a@b." + x64, "a@b." + x64 + ".c", "a@" + x63 + ".", "a@" + x63 + "-", "a@-" + x62, "a@" + x62 + "-", "a@" + strings.Repeat("b.", 5000), "a@" + strings.Repeat("-", 63), "a@x" + strings.Repeat("-", 62) + "x",
}

// grow goes through all texts of up to most of these pieces.
func grow(most int, pieces []string, f func(s string)) {
	var more func(s string, left int)
	more = func(s string, left int) {
		f(s)
		if left == 0 {
			return
		}
		for _, p := range pieces {
			more(s+p, left-1)
		}
	}
	more("", most)
}

// near goes through s and all texts that are one byte away from it: changed, put in, taken out.
func near(s string, f func(s string)) {
	f(s)
	for i := range len(s) + 1 {
		for sign := range 256 {
			put := string([]byte{byte(sign)})
			f(s[:i] + put + s[i:])
			if i < len(s) {
				f(s[:i] + put + s[i+1:])
			}
		}
		if i < len(s) {
			f(s[:i] + s[i+1:])
		}
	}
}

// lists goes through texts with commas and blanks.
func lists(f func(s string)) {
	grow(7, []string{"a@b", ",", " ", "\n", "x"}, f)
	grow(5, []string{"a", "@", ",", " ", "\t", "\n", "\f", "\r", "\v", "\u00a0", "\xff"}, f)
	for _, s := range []string{"a@b", "a@b,c@d", " a@b , c@d", "a , b", ",,", "\t\n\f\r a@b\t\n\f\r ,\t\n\f\r ", "a\r\nb"} {
		near(s, f)
	}
}

func slowStrip(s string) string { return ends.ReplaceAllString(s, "") }

func slowItems(s string) []string {
	items := regexp.MustCompile(",").Split(s, -1)
	for i := range items {
		items[i] = slowStrip(items[i])
	}
	return items
}

func slowList(s string) bool {
	for _, item := range slowItems(s) {
		if !shape.MatchString(item) {
			return s == ""
		}
	}
	return true
}

func TestP7_1Address(t *testing.T) {
	for _, s := range addresses {
		if !Address(s) {
			t.Errorf("Address(%.80q) is false", s)
		}
	}
	for _, s := range noAddresses {
		if Address(s) {
			t.Errorf("Address(%.80q) is true", s)
		}
	}
	against := func(s string) {
		if is := Address(s); is != shape.MatchString(s) {
			t.Errorf("Address(%q) is %v", s, is)
		}
	}
	grow(7, []string{"a", "@", ".", "-", "+", " "}, against)
	for _, s := range []string{"a@b", "a.b@c-d.e", "Zz09@Zz09", "@b", "a@", "a@b.", "aa@bbb.ccc"} {
		near(s, against)
	}
}

func TestP7_1AddressBytes(t *testing.T) {
	const alphabet = "abcdefghijklmnopqrstuvwxyzABCDEFGHIJKLMNOPQRSTUVWXYZ0123456789"
	const signs = ".!#$%&'*+/=?^_{|}~-\x60"
	for i := range 256 {
		c := string([]byte{byte(i)})
		letter := strings.Contains(alphabet, c)
		user, inner := letter || strings.Contains(signs, c), letter || c == "-"
		for s, want := range map[string]bool{
			c + "@b": user, c + "a@b": user, "a" + c + "@b": user, "a" + c + "a@b": user,
			"a@" + c: letter, "a@" + c + "b": letter, "a@b" + c: letter, "a@b." + c: letter, "a@" + c + ".b": letter,
			"a@b" + c + "b": inner || c == ".", "a@b.c" + c + "c.d": inner || c == ".",
		} {
			if Address(s) != want {
				t.Errorf("Address(%q) is not %v", s, want)
			}
		}
	}
}

func TestP7_1LabelLengths(t *testing.T) {
	for n := range 200 {
		want := n >= 1 && n <= 63
		long := strings.Repeat("x", n)
		for _, s := range []string{"a@" + long, "a@b." + long, "a@" + long + ".b", "a@" + x63 + "." + long + "." + x63} {
			if Address(s) != want {
				t.Errorf("Address(%q) is not %v", s, want)
			}
		}
		if is := Address(long + "@b"); is != (n > 0) {
			t.Errorf("Address of %d letters, @ and b is %v", n, is)
		}
	}
}

func TestP7_1List(t *testing.T) {
	for s, want := range map[string]bool{
		"": true, "a@b": true, " a@b ,c@d\t": true, "a@b,c@d,e@f": true, "\t\n\f\r a@b\t\n\f\r ,\t\n\f\r c@d\t\n\f\r ": true, " a@b": true, "a@b\r\n": true, "a@b,a@b": true, "a@b ,\nc@d": true,
		"a@b,": false, ",a@b": false, ",": false, ",,": false, " ": false, "\t\n\f\r ": false, " , ": false, "a@b,,c@d": false, "a@b, ,c@d": false, "a@b, ": false,
		"a@b c@d": false, "a@b;c@d": false, "a@b,c": false, "a,c@d": false, "a@b,c@-d": false, "a@-b,c@d": false, "a@b,c@d,e": false, "a @b": false, "a@ b,c@d": false, "a@b\n.c": false,
		"\va@b": false, "a@b\v": false, "\u00a0a@b": false, "a@b\u3000": false, "a@b\x00": false, "a@b\uff0cc@d": false, "a@b,\xff": false,
		"\"a,b\"@c": false, "a@" + x63 + ",b@" + x64: false, "a@" + x63 + ", b@" + x63: true,
	} {
		if List(s) != want {
			t.Errorf("List(%q) is not %v", s, want)
		}
	}
	for _, s := range addresses {
		if !List(s) || !List("\t"+s+" ,\n"+s+"\f") || List(s+",") {
			t.Errorf("List by %.80q", s)
		}
	}
	many := strings.Repeat("a@b , ", 100000)
	if !List(many+"c@d") || List(many) || List(many+"c@") {
		t.Error("List of many addresses")
	}
	lists(func(s string) {
		if is, want := List(s), slowList(s); is != want {
			t.Errorf("List(%q) is %v", s, is)
		}
	})
}

func TestP7_2Trim(t *testing.T) {
	for s, want := range map[string]string{
		"": "", "a": "a", " ": "", "\t\n\f\r ": "", "\n a b\r ": "a b", "a\r\nb": "ab", "a \n b": "a  b", " \n\t a\f": "a",
		"\n \r\t\na\r\f\n ": "a", // blanks between ends of lines
		" a , b ":           "a , b", ",": ",", "\r\n,\r\n": ",", "a\tb\fc d": "a\tb\fc d",
		"\v a \v": "\v a \v", "\u00a0 a\u3000": "\u00a0 a\u3000", " \u2028\u0085 ": "\u2028\u0085", "\x00 ": "\x00", " \xff\n\xc3\r\xa9 ": "\xff\xc3\xa9",
		" HTTP://A b\n/c ": "HTTP://A b/c",
	} {
		if got := Trim(s); got != want {
			t.Errorf("Trim(%q) is %q, not %q", s, got, want)
		}
	}
	lists(func(s string) {
		if got, want := Trim(s), slowStrip(breaks.ReplaceAllString(s, "")); got != want {
			t.Errorf("Trim(%q) is %q, not %q", s, got, want)
		}
	})
}

func TestP7_2Clean(t *testing.T) {
	for s, want := range map[string]string{
		"": "", " a@b , c@d": "a@b,c@d", "a@b": "a@b", " ": "", ",": ",", " , ": ",", ",,": ",,", "\t,\n,\f,\r, ": ",,,,", "a,": "a,", ",a": ",a", " a ,, b ": "a,,b",
		"\t\n\f\r a\t\n\f\r ,\t\n\f\r b\t\n\f\r ": "a,b",
		"a\nb , c\r\nd": "a\nb,c\r\nd", "a b , c  d": "a b,c  d", // what stands within stays, ends of lines too
		"A@B , x": "A@B,x", "\va , b\v": "\va,b\v", "a\u00a0, b": "a\u00a0,b", " \xff , \xc3": "\xff,\xc3", "a ; b": "a ; b", "a \uff0c b": "a \uff0c b", "\x00 ,a": "\x00,a",
	} {
		if got := Clean(s); got != want {
			t.Errorf("Clean(%q) is %q, not %q", s, got, want)
		}
	}
	if got := Clean(strings.Repeat(" a , ", 100000)); got != strings.Repeat("a,", 100000) {
		t.Error("Clean of many texts")
	}
	lists(func(s string) {
		if got, want := Clean(s), strings.Join(slowItems(s), ","); got != want {
			t.Errorf("Clean(%q) is %q, not %q", s, got, want)
		}
	})
}

func TestP7_3(t *testing.T) {
	held := func(s string) {
		if once := Clean(s); Clean(once) != once {
			t.Errorf("Clean(%q) is %q, and once more %q", s, once, Clean(once))
		}
		if once := Trim(s); Trim(once) != once {
			t.Errorf("Trim(%q) is %q, and once more %q", s, once, Trim(once))
		}
		if is := List(s); !strings.Contains(s, ",") && is != (s == "" || Address(slowStrip(s))) {
			t.Errorf("List(%q) is %v", s, is)
		}
	}
	lists(held)
	for _, s := range append(addresses, noAddresses...) {
		held(s)
		held(" " + s + "\n")
		held(s + " , \r" + s)
	}
}

// What is answered is new memory (rule R4), even where nothing had to be changed.
func TestAnswersAreNew(t *testing.T) {
	for _, s := range []string{strings.Repeat("a", 100) + "@b", strings.Repeat("a@b,", 100) + "c@d"} {
		for name, f := range map[string]func(string) string{"Clean": Clean, "Trim": Trim} {
			got := f(s)
			if got != s {
				t.Errorf("%s changed a text that has nothing to change: %q", name, got)
			}
			if within(got, s) {
				t.Errorf("%s answers memory of its argument", name)
			}
		}
	}
}

// within tells whether part begins in the memory of whole.
func within(part, whole string) bool {
	at, from := uintptr(unsafe.Pointer(unsafe.StringData(part))), uintptr(unsafe.Pointer(unsafe.StringData(whole)))
	return at >= from && at < from+uintptr(len(whole))
}
