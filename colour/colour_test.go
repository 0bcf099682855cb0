package colour

import (
	"fmt"
	"regexp"
	"strings"
	"testing"
	"unsafe"

	"counterfoil/api"
)

// shape is the chapter's word, once more, by an expression.
var shape = regexp.MustCompile(`\A#[0-9a-fA-F]{6}\z`)

var wrong = []string{
	"", "#", "0", "000000", "0000000", "#0", "#00", "#000", "#abc", "#0000", "#00000", "#0000000", "#00000000", "#abcdef0", "#abcdef00",
	"##00000", "#00000#", "000000#", "#00#000", "x000000", "$000000", "\"000000", "0x00000", "#0x0000", "##000000",
	" #000000", "#000000 ", " #00000", "#00000 ", "# 00000", "#000 00", "#000000\n", "\n#000000", "#00000\n", "#000000\x00", "\x00#000000", "#00000\x00",
	"#00000g", "#g00000", "#00000G", "#00g000", "#00000/", "#00000:", "#00000@", "#00000`", "#-00001", "#+00001", "#0000_1", "#00000.", "#1e0.00", "#%30000",
	"black", "red", "white", "transparent", "rgb(0,0,0)", "#blackk", "#ffffffff", "#FFFFFFF", "ffffff", "#fffff",
	"#00000\u0660", "#0000\u0660", "#\u0660\u0660\u0660", "#\uff10\uff10", "\uff030000", "#0000é", "\xff000000", "#00000\xff", "#\xff\xff\xff\xff\xff\xff", "#0000\xc3\xa6",
	"#abcdef#abcdef", "#000000,#000000",
}

var right = []struct {
	s, small string
	r, g, b  uint8
}{
	{"#000000", "#000000", 0, 0, 0}, {"#ffffff", "#ffffff", 255, 255, 255}, {"#FFFFFF", "#ffffff", 255, 255, 255}, {"#fFfFfF", "#ffffff", 255, 255, 255},
	{"#AbC012", "#abc012", 171, 192, 18}, {"#0AfF10", "#0aff10", 10, 255, 16}, {"#010203", "#010203", 1, 2, 3}, {"#123456", "#123456", 18, 52, 86},
	{"#789abc", "#789abc", 120, 154, 188}, {"#DEF012", "#def012", 222, 240, 18}, {"#ABCDEF", "#abcdef", 171, 205, 239}, {"#abcdef", "#abcdef", 171, 205, 239},
	{"#ff0000", "#ff0000", 255, 0, 0}, {"#00ff00", "#00ff00", 0, 255, 0}, {"#0000ff", "#0000ff", 0, 0, 255}, {"#100000", "#100000", 16, 0, 0}, {"#00000A", "#00000a", 0, 0, 10},
	{"#0f1f2f", "#0f1f2f", 15, 31, 47}, {"#999999", "#999999", 153, 153, 153}, {"#a0A0a0", "#a0a0a0", 160, 160, 160}, {"#7f8081", "#7f8081", 127, 128, 129},
}

// near goes through the right texts, all that are one byte away from one (changed, put in, taken out), and all texts that differ from black in two bytes.
func near(f func(s string)) {
	for _, c := range right {
		f(c.s)
		for i := range len(c.s) + 1 {
			for sign := range 256 {
				put := string([]byte{byte(sign)})
				f(c.s[:i] + put + c.s[i:])
				if i < len(c.s) {
					f(c.s[:i] + put + c.s[i+1:])
				}
			}
			if i < len(c.s) {
				f(c.s[:i] + c.s[i+1:])
			}
		}
	}
	for i := range 7 {
		for j := range i {
			for two := range 256 * 256 {
				s := []byte("#000000")
				s[i], s[j] = byte(two), byte(two>>8)
				f(string(s))
			}
		}
	}
}

// pieces goes through all texts of up to eight pieces.
func pieces(f func(s string)) {
	var grow func(s string, left int)
	grow = func(s string, left int) {
		f(s)
		if left == 0 {
			return
		}
		for _, p := range []string{"#", "0", "a", "F", "g"} {
			grow(s+p, left-1)
		}
	}
	grow("", 8)
}

// colours goes through all numbers of each two parts beside edges of the third.
func colours(f func(r, g, b uint8)) {
	for two := range 256 * 256 {
		x, y := uint8(two), uint8(two>>8)
		for _, z := range []uint8{0, 9, 10, 15, 16, 128, 171, 255} {
			f(x, y, z)
			f(x, z, y)
			f(z, x, y)
		}
	}
}

// slowParts reads by the library's way.
func slowParts(s string) (r, g, b uint8, e api.Errno) {
	if !shape.MatchString(s) {
		return 0, 0, 0, api.ErrForm
	}
	if _, err := fmt.Sscanf(s, "#%2x%2x%2x", &r, &g, &b); err != nil {
		panic(err)
	}
	return r, g, b, api.OK
}

func slowClean(s string) string {
	if !shape.MatchString(s) {
		return "#000000"
	}
	return strings.ToLower(s)
}

func TestP6_1(t *testing.T) {
	for _, c := range right {
		if !Simple(c.s) {
			t.Errorf("Simple(%q) is false", c.s)
		}
		if s := Clean(c.s); s != c.small {
			t.Errorf("Clean(%q) is %q, not %q", c.s, s, c.small)
		}
	}
	for _, s := range append(wrong, strings.Repeat("#000000", 100000), "#"+strings.Repeat("a", 1000000)) {
		if Simple(s) {
			t.Errorf("Simple(%.20q) is true", s)
		}
		if c := Clean(s); c != "#000000" {
			t.Errorf("Clean(%.20q) is %.20q", s, c)
		}
	}
	against := func(s string) {
		if simple := Simple(s); simple != shape.MatchString(s) {
			t.Errorf("Simple(%q) is %v", s, simple)
		}
		if c, want := Clean(s), slowClean(s); c != want {
			t.Errorf("Clean(%q) is %q, not %q", s, c, want)
		}
	}
	near(against)
	pieces(against)
}

func TestP6_2(t *testing.T) {
	for _, c := range right {
		if r, g, b, e := Parts(c.s); r != c.r || g != c.g || b != c.b || e != api.OK {
			t.Errorf("Parts(%q) is %d, %d, %d, %d", c.s, r, g, b, e)
		}
		if s := Show(c.r, c.g, c.b); s != c.small {
			t.Errorf("Show(%d, %d, %d) is %q, not %q", c.r, c.g, c.b, s, c.small)
		}
	}
	for _, s := range wrong {
		if r, g, b, e := Parts(s); r != 0 || g != 0 || b != 0 || e != api.ErrForm {
			t.Errorf("Parts(%q) is %d, %d, %d, %d", s, r, g, b, e)
		}
	}
	near(func(s string) {
		wantR, wantG, wantB, want := slowParts(s)
		if r, g, b, e := Parts(s); r != wantR || g != wantG || b != wantB || e != want {
			t.Errorf("Parts(%q) is %d, %d, %d, %d, not %d, %d, %d, %d", s, r, g, b, e, wantR, wantG, wantB, want)
		}
	})
	colours(func(r, g, b uint8) {
		if s, want := Show(r, g, b), fmt.Sprintf("#%02x%02x%02x", r, g, b); s != want {
			t.Errorf("Show(%d, %d, %d) is %q, not %q", r, g, b, s, want)
		}
	})
}

func TestP6_3(t *testing.T) {
	colours(func(r, g, b uint8) {
		s := Show(r, g, b)
		if backR, backG, backB, e := Parts(s); backR != r || backG != g || backB != b || e != api.OK {
			t.Errorf("Parts(%q) is %d, %d, %d, %d, not %d, %d, %d", s, backR, backG, backB, e, r, g, b)
		}
	})
	// Beside an error the numbers are 0: so it holds of texts that are no simple colour too.
	shown := func(s string) {
		r, g, b, _ := Parts(s)
		if back, c := Show(r, g, b), Clean(s); back != c {
			t.Errorf("Show of Parts of %q is %q, Clean is %q", s, back, c)
		}
	}
	for _, s := range wrong {
		shown(s)
	}
	near(shown)
	pieces(shown)
}

// What is answered is new memory (rule R4), even where nothing had to be changed.
func TestAnswersAreNew(t *testing.T) {
	for _, s := range []string{"#abc012", "#ABC012", "#000000", "", "red"} {
		one, two := Clean(s), Clean(s)
		if unsafe.StringData(one) == unsafe.StringData(two) || unsafe.StringData(one) == unsafe.StringData(s) {
			t.Errorf("Clean(%q) answers memory that is not new", s)
		}
	}
}
