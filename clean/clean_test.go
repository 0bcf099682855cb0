package clean

import (
	"math"
	"math/big"
	"slices"
	"strings"
	"testing"
	"unsafe"

	"counterfoil/api"
	"counterfoil/colour"
	"counterfoil/mail"
	"counterfoil/number"
	"counterfoil/step"
)

const edge = int64(1000000000000000000) // 10^18

// changing are the kinds that may change a value; all others leave it as it is.
var changing = []int{api.KText, api.KSearch, api.KTel, api.KURL, api.KEmail, api.KPassword, api.KDate, api.KMonth, api.KWeek, api.KTime, api.KLocal, api.KNumber, api.KRange, api.KColour}

// others are numbers of kinds that leave a value as it is: those of other controls, and such as would be one of the changing if they were cut.
func others(f func(kind int)) {
	for kind := -40; kind <= 300; kind++ {
		if !slices.Contains(changing, kind) {
			f(kind)
		}
	}
	for kind := range 16 {
		for _, far := range []int{1 << 16, 1 << 31, 1 << 32, 1 << 62, math.MaxInt - 20, math.MinInt, -1 << 62, -1 << 32, -1 << 31, -1 << 16} {
			f(far + kind)
		}
	}
}

// with is a list of attributes: names and values by turns; a value of none leaves the attribute out.
func with(l ...string) []api.Attr {
	var out []api.Attr
	for i := 0; i < len(l); i += 2 {
		if l[i+1] != "none" {
			out = append(out, api.Attr{Name: l[i], Value: l[i+1]})
		}
	}
	return out
}

// samples are texts that have something to be cleaned for one kind or another.
var samples = []string{
	"", " ", "a", " a b ", "\n", "\r", "\r\n", " a\r\nb ", "\n a \n", "\ta\f", "a\x00b", "\xff\n\xfe", "é\r", "\u00a0a\u00a0", "\u2028", "a\n",
	"a@b", " a@b\n", " a@b , c ", ",", " , ,", "a@b,c@d", "a@b\n,\rc@d", "a\nb , c\nd", "a b", "x , ", "\n,\n", "a,\n\nb",
	"http://a", " http://a\n", "x:\ny ", "HTTP://A B",
	"2020-02-29", "2020-02-30", "2021-02-29", "0001-01-01", "0000-01-01", "275760-12-31", "275761-01-01", "2020-2-1", " 2020-02-29", "2020-02-29\n",
	"2020-02", "2020-13", "2020-00", "0001-01", "2020-W53", "2021-W53", "2020-W1", "2020-w01", "1970-W01",
	"00:00", "24:00", "23:59:59.999", "12:00:00", "12:00:00.000", "12:00:00.5", "12:00:00.50", "12:00:60", "1:00", "12:00\n",
	"2020-01-01 00:00:00", "2020-01-01T00:00", "2020-01-01T00:00:00.000", "2020-01-01 12:34:56.7", "2020-01-01T12:34:56.700", "2020-01-01t00:00", "2020-01-01T24:00", "2020-02-30T00:00", "0001-01-01 00:00", "275760-12-31 23:59:59.999", "2020-01-01  00:00", "2020-01-01", " 2020-01-01T00:00",
	"0", "-0", "007", "1.50", ".5", "-.5", "1.", "1e3", "+1", "2.5", "3.5", "-1", "50", "100", "100.000001", "101", "1000000000000", "-1000000000000", "1000000000001", "0.0000001", "0.5000000", "5\n", " 5", "5 ", "any",
	"#ABCDEF", "#abcdef", "#AbC012", "red", "#abc", "#00000g", " #000000", "#000000\n",
	strings.Repeat("\r\n ", 3000), strings.Repeat("9", 5000), strings.Repeat("0", 5000) + "7", strings.Repeat("a@b , ", 2000),
}

// slowValue is the chapter's table once more.
func slowValue(kind int, attrs []api.Attr, s string) string {
	n, counts := step.Value(kind, s)
	switch {
	case kind == 2 || kind == 3 || kind == 4 || kind == 7:
		return strings.NewReplacer("\n", "", "\r", "").Replace(s)
	case kind == 5 || kind == 6 && !slices.Contains(names(attrs), "multiple"):
		return strings.Trim(strings.NewReplacer("\n", "", "\r", "").Replace(s), " \t\n\f\r")
	case kind == 6:
		return mail.Clean(s)
	case kind >= 8 && kind <= 13 && !counts:
		return ""
	case kind == 12:
		shown, ok := step.Show(kind, n)
		if !ok {
			panic("no text of a text's number")
		}
		return shown
	case kind == 14:
		return slowRange(attrs, s)
	case kind == 15:
		return colour.Clean(s)
	}
	return s
}

func names(attrs []api.Attr) []string {
	var out []string
	for _, a := range attrs {
		out = append(out, a.Name)
	}
	return out
}

// slowDefault and slowRange are the chapter's words once more, by numbers without bounds.
func slowDefault(attrs []api.Attr) *big.Int {
	lower, _ := step.Least(14, attrs)
	upper, _ := step.Most(14, attrs)
	least, most := big.NewInt(lower), big.NewInt(upper)
	if most.Cmp(least) < 0 {
		return least
	}
	half := new(big.Int).Sub(most, least)
	half.Div(half, big.NewInt(2))
	return half.Add(least, half)
}

func slowRange(attrs []api.Attr, s string) string {
	told, ok := step.Value(14, s)
	n := big.NewInt(told)
	if !ok {
		n = slowDefault(attrs)
	}
	lower, _ := step.Least(14, attrs)
	upper, _ := step.Most(14, attrs)
	least, most := big.NewInt(lower), big.NewInt(upper)
	if n.Cmp(least) < 0 {
		n = least
	} else if n.Cmp(most) > 0 && most.Cmp(least) >= 0 {
		n = most
	}
	if gap, stepped := step.Step(14, attrs); stepped {
		n = slowStep(n, least, most, big.NewInt(step.Base(14, attrs)), big.NewInt(gap))
	}
	if ok && n.Cmp(big.NewInt(told)) == 0 {
		return s
	}
	return number.Show(n.Int64())
}

func slowStep(n, least, most, base, gap *big.Int) *big.Int {
	over := new(big.Int).Sub(n, base)
	over.Mod(over, gap)
	if over.Sign() == 0 {
		return n
	}
	d := new(big.Int).Sub(n, over)
	u := new(big.Int).Add(d, gap)
	toUp := new(big.Int).Sub(u, n)
	if u.Cmp(most) <= 0 {
		if over.Cmp(toUp) >= 0 || d.Cmp(least) < 0 {
			return u
		}
	}
	if d.Cmp(least) >= 0 {
		return d
	}
	return n
}

func check(t *testing.T, kind int, attrs []api.Attr, s, want string) {
	t.Helper()
	if got := Value(kind, attrs, s); got != want {
		t.Errorf("Value(%d, %v, %.60q) is %.60q, not %.60q", kind, attrs, s, got, want)
	}
}

type row struct {
	kind    int
	attrs   []api.Attr
	s, want string
}

func TestP13_1Texts(t *testing.T) {
	multiple := with("multiple", "")
	for _, kind := range []int{api.KText, api.KSearch, api.KTel, api.KPassword} {
		for _, attrs := range [][]api.Attr{nil, {}, multiple, with("value", "v", "min", "5")} {
			check(t, kind, attrs, " a\r\nb ", " ab ")
			check(t, kind, attrs, "", "")
			check(t, kind, attrs, "\n\r\r\n", "")
			check(t, kind, attrs, "\t x \f", "\t x \f")
			check(t, kind, attrs, "\xff\r\xfe\u2028", "\xff\xfe\u2028")
			check(t, kind, attrs, " a , b ", " a , b ")
		}
	}
	for _, c := range []row{
		{api.KURL, nil, " a\nb ", "ab"}, {api.KURL, multiple, " a , b ", "a , b"}, {api.KURL, nil, "\n \r", ""}, {api.KURL, nil, "\t\fHTTP://A B\r\n \n", "HTTP://A B"}, {api.KURL, nil, "\u00a0a", "\u00a0a"}, {api.KURL, nil, "not an address", "not an address"},
		{api.KEmail, nil, " a@b\n", "a@b"}, {api.KEmail, nil, " a@b , c ", "a@b , c"}, {api.KEmail, nil, "a\n@\rb", "a@b"}, {api.KEmail, nil, "", ""}, {api.KEmail, nil, " no ", "no"},
		{api.KEmail, multiple, " a@b , c ", "a@b,c"}, {api.KEmail, multiple, "", ""}, {api.KEmail, multiple, " , \n,", ",,"}, {api.KEmail, multiple, "a\nb , c", "a\nb,c"}, {api.KEmail, multiple, "\r\na@b\r\n", "a@b"},
		{api.KEmail, with("multiple", "false"), " a , b", "a,b"}, {api.KEmail, with("x", "y", "multiple", "no"), " a , b", "a,b"}, {api.KEmail, with("multiple", "a", "multiple", "b"), " a , b", "a,b"},
		{api.KEmail, with("Multiple", ""), " a , b", "a , b"}, {api.KEmail, with("MULTIPLE", "", "multiples", "", "multipl", "", "", ""), " a , b", "a , b"}, {api.KEmail, with("value", "multiple", "name", "multiple"), " a , b", "a , b"}, {api.KEmail, with("multiple ", ""), " a , b", "a , b"},
		{api.KColour, nil, "#ABCDEF", "#abcdef"}, {api.KColour, nil, "red", "#000000"}, {api.KColour, nil, "", "#000000"}, {api.KColour, nil, "#AbC", "#000000"}, {api.KColour, with("value", "#123456"), "x", "#000000"}, {api.KColour, nil, "#AbC012", "#abc012"}, {api.KColour, nil, " #abc012", "#000000"},
		{api.KHidden, nil, "a\n", "a\n"}, {api.KArea, nil, "a\r", "a\r"}, {api.KOutput, nil, " a\r\n", " a\r\n"}, {api.KCheckbox, nil, " x ", " x "}, {api.KFile, multiple, " a , b", " a , b"}, {api.KSelect, multiple, " a , b", " a , b"},
	} {
		check(t, c.kind, c.attrs, c.s, c.want)
	}
}

func TestP13_1Moments(t *testing.T) {
	bounded := with("min", "9999-12-31", "max", "0001-01-01", "step", "7", "value", "2020-02-02")
	for _, attrs := range [][]api.Attr{nil, bounded, with("min", "5", "max", "1", "step", "2"), with("multiple", "")} {
		for _, c := range []row{
			{api.KDate, attrs, "2020-02-29", "2020-02-29"}, {api.KDate, attrs, "2020-02-30", ""}, {api.KDate, attrs, "2020-02", ""}, {api.KDate, attrs, "2020-02-29\n", ""}, {api.KDate, attrs, " 2020-02-29", ""}, {api.KDate, attrs, "", ""}, {api.KDate, attrs, "0001-01-01", "0001-01-01"}, {api.KDate, attrs, "275760-12-31", "275760-12-31"}, {api.KDate, attrs, "275761-01-01", ""},
			{api.KMonth, attrs, "2020-12", "2020-12"}, {api.KMonth, attrs, "2020-13", ""}, {api.KMonth, attrs, "2020-12-01", ""}, {api.KMonth, attrs, "", ""},
			{api.KWeek, attrs, "2020-W53", "2020-W53"}, {api.KWeek, attrs, "2021-W53", ""}, {api.KWeek, attrs, "2020-12", ""}, {api.KWeek, attrs, "", ""},
			{api.KTime, attrs, "12:00", "12:00"}, {api.KTime, attrs, "12:00:00.500", "12:00:00.500"}, {api.KTime, attrs, "12:00:00", "12:00:00"}, {api.KTime, attrs, "24:00", ""}, {api.KTime, attrs, "1:00", ""}, {api.KTime, attrs, "", ""},
			{api.KNumber, attrs, "007", "007"}, {api.KNumber, attrs, "-0", "-0"}, {api.KNumber, attrs, "1.50", "1.50"}, {api.KNumber, attrs, ".5", ".5"}, {api.KNumber, attrs, "1e3", ""}, {api.KNumber, attrs, "1.", ""}, {api.KNumber, attrs, "+1", ""}, {api.KNumber, attrs, " 1", ""}, {api.KNumber, attrs, "", ""}, {api.KNumber, attrs, "1000000000000", "1000000000000"}, {api.KNumber, attrs, "1000000000001", ""}, {api.KNumber, attrs, "0.0000001", ""},
			{api.KLocal, attrs, "2020-01-01 00:00:00", "2020-01-01T00:00"}, {api.KLocal, attrs, "2020-01-01T00:00", "2020-01-01T00:00"}, {api.KLocal, attrs, "2020-01-01T12:34:56.700", "2020-01-01T12:34:56.7"}, {api.KLocal, attrs, "2020-01-01 12:34:00.001", "2020-01-01T12:34:00.001"}, {api.KLocal, attrs, "2020-02-30T00:00", ""}, {api.KLocal, attrs, "2020-01-01", ""}, {api.KLocal, attrs, "", ""}, {api.KLocal, attrs, "0001-01-01 00:00", "0001-01-01T00:00"}, {api.KLocal, attrs, "275760-12-31 23:59:59.999", "275760-12-31T23:59:59.999"},
		} {
			check(t, c.kind, c.attrs, c.s, c.want)
		}
	}
}

// TestP13_1All holds all kinds against the chapter's table, at all samples.
func TestP13_1All(t *testing.T) {
	lists := [][]api.Attr{nil, with("multiple", ""), with("min", "5", "max", "1", "step", "2", "value", "3"), with("min", "x", "max", "3.5", "value", "0.6")}
	for _, s := range samples {
		for _, attrs := range lists {
			for _, kind := range changing {
				check(t, kind, attrs, s, slowValue(kind, attrs, s))
			}
		}
		others(func(kind int) { check(t, kind, lists[1], s, s) })
	}
}

func TestP13_2Range(t *testing.T) {
	whole := "1000000000000"
	for _, c := range []struct {
		attrs   []api.Attr
		s, want string
	}{
		{nil, "x", "50"}, {nil, "", "50"}, {nil, "101", "100"}, {nil, "100.000001", "100"}, {nil, "100", "100"}, {nil, "-1", "0"}, {nil, "-0.4", "0"}, {nil, "2.5", "3"}, {nil, "2.499999", "2"}, {nil, "2.500001", "3"}, {nil, "99.5", "100"}, {nil, "1e3", "50"}, {nil, "1000000000001", "50"}, {nil, " 7", "50"},
		{nil, "007", "007"}, {nil, "-0", "-0"}, {nil, "3.000", "3.000"}, {nil, "0000", "0000"}, {nil, "0101", "100"}, {nil, "02.5", "3"}, {with("step", ".5"), "2.50", "2.50"}, {with("step", ".5"), ".5", ".5"}, {with("step", ".5"), ".25", "0.5"},
		{with("step", "any"), "2.5", "2.5"}, {with("step", "ANY"), "0.000001", "0.000001"}, {with("step", "any"), "101.5", "100"}, {with("step", "any"), "-.5", "0"}, {with("step", "any", "max", "5"), "", "2.5"}, {with("max", "5"), "", "3"}, {with("max", "0.000001", "step", "any"), "x", "0"},
		{with("min", "10", "max", "5"), "", "10"}, {with("min", "10", "max", "5"), "7", "10"}, {with("min", "10", "max", "5"), "4", "10"}, {with("min", "10", "max", "5"), "20", "20"}, {with("min", "10", "max", "5"), "12.5", "12"}, {with("min", "10", "max", "5"), "12.9", "12"}, {with("min", "10", "max", "5", "step", "100"), "12", "10"}, {with("max", "-5"), "-7", "0"}, {with("max", "-5"), "3", "3"}, {with("max", "-5"), "", "0"},
		{with("min", "0", "max", "10", "step", "3"), "10", "9"}, {with("min", "0", "max", "10", "step", "3"), "11", "9"}, {with("min", "0", "max", "10", "step", "3"), "1.5", "3"}, {with("min", "0", "max", "10", "step", "3"), "1.499999", "0"}, {with("min", "0", "max", "10", "step", "3"), "1.6", "3"}, {with("min", "0", "max", "10", "step", "3"), "x", "6"}, {with("min", "0", "max", "9", "step", "3"), "8", "9"}, {with("min", "0", "max", "9", "step", "3"), "x", "6"},
		{with("min", "0.5", "max", "0.9", "value", "0.6"), "0.7", "0.5"}, {with("min", "-10", "max", "-1", "step", "4"), "-4", "-2"}, {with("min", "-10", "max", "-3", "step", "4"), "-4", "-6"}, {with("min", "-10", "max", "-3", "step", "4"), "-9", "-10"}, {with("min", "-10", "max", "-3", "step", "4"), "-8", "-6"}, {with("min", "200"), "5", "200"}, {with("min", "200"), "", "200"}, {with("min", "200"), "300", "200"}, {with("min", "100.5"), "x", "100.5"},
		{with("value", "0.6"), "0.05", "0.6"}, {with("value", "0.6"), "0", "0.6"}, {with("value", "0.6"), "-9", "0.6"}, {with("value", "0.6"), "1.05", "0.6"}, {with("value", "0.6"), "1.1", "1.6"}, {with("value", "0.6"), "200", "99.6"}, {with("value", "0.6"), "", "49.6"}, {with("value", "0.6", "max", "0.6"), "0.05", "0.6"}, {with("value", "0.6", "max", "0.5"), "0.05", "0.05"}, {with("value", "0.6", "max", "0.5"), "0.450", "0.450"}, {with("value", "0.6", "max", "0.5"), "7", "0.5"}, {with("value", "0.6", "max", "0.5"), "", "0.25"}, {with("value", "0.6", "max", "-5"), "0.05", "0.05"}, {with("value", "0.6", "max", "-5"), "0.7", "0.6"}, {with("value", "-3.7"), "0.05", "0.3"}, {with("value", "-3.7"), "0.000", "0.3"}, {with("value", "x"), "0.4", "0"}, {with("value", "0.6", "min", "x"), "0", "0.6"},
		{with("min", "1", "min", "5"), "0", "1"}, {with("min", "x", "min", "5"), "-1", "0"}, {with("max", "10", "max", "20"), "15", "10"}, {with("step", "3", "step", "any"), "1", "0"}, {with("Max", "5", "MIN", "3", "Step", "any", "Value", ".5"), "5.5", "6"},
		{with("min", "-"+whole, "max", whole), "", "0"}, {with("min", "-"+whole, "max", whole, "step", whole), "-499999999999.999999", "0"}, {with("min", "-"+whole, "max", whole, "step", whole), "-500000000000", "0"}, {with("min", "-"+whole, "max", whole, "step", whole), "-500000000000.000001", "-" + whole}, {with("min", "-"+whole, "max", whole, "step", whole), "999999999999.999999", whole}, {with("min", whole, "max", "-"+whole, "step", whole), "0", whole}, {with("min", whole), "x", whole}, {with("max", whole, "step", whole, "value", "1"), "0", "1"}, {with("max", whole, "step", whole, "value", "1"), whole, "1"}, {with("max", "-"+whole), whole, whole}, {with("max", whole, "step", "0.000001"), "999999999999.999999", "999999999999.999999"}, {with("step", whole, "value", "-"+whole, "max", "1"), "0.5", "0"}, {with("step", whole, "value", "-"+whole, "min", "-"+whole), "-" + whole, "-" + whole},
	} {
		check(t, api.KRange, c.attrs, c.s, c.want)
	}
}

func TestP13_2Default(t *testing.T) {
	whole := "1000000000000"
	for _, c := range []struct {
		attrs []api.Attr
		want  int64
	}{
		{nil, 50000000}, {[]api.Attr{}, 50000000}, {with("max", "5"), 2500000}, {with("min", "200"), 200000000}, {with("min", "50"), 75000000}, {with("min", "10", "max", "5"), 10000000}, {with("min", "10", "max", "10"), 10000000}, {with("max", "-5"), 0}, {with("max", "0"), 0}, {with("min", "-5", "max", "-4"), -4500000},
		{with("max", "0.000001"), 0}, {with("max", "0.000003"), 1}, {with("min", "-0.000003", "max", "0"), -2}, {with("min", "-0.000001", "max", "0"), -1}, {with("min", "-0.000004", "max", "-0.000001"), -3}, {with("min", "-0.000001", "max", "0.000002"), 0},
		{with("min", "x", "max", "y"), 50000000}, {with("min", "x", "max", "7"), 3500000}, {with("min", "20", "max", "1e3"), 60000000}, {with("step", "3", "value", "7", "multiple", ""), 50000000}, {with("min", "1", "min", "9", "max", "2", "max", "99"), 1500000}, {with("Max", "5", "MIN", "3"), 50000000},
		{with("min", "-"+whole, "max", whole), 0}, {with("min", "-"+whole, "max", "999999999999.999999"), -1}, {with("min", "-"+whole), (100000000 - edge) / 2}, {with("max", whole), edge / 2}, {with("min", whole), edge}, {with("min", whole, "max", "-"+whole), edge}, {with("min", "-"+whole, "max", "-"+whole), -edge},
	} {
		if got := Default(c.attrs); got != c.want {
			t.Errorf("Default(%v) is %d, not %d", c.attrs, got, c.want)
		}
	}
}

// TestP13_2All holds ranges against the chapter's words by numbers without bounds, at all of min, max, step, value and text.
func TestP13_2All(t *testing.T) {
	ends := []string{"none", "x", "0", "-0.5", "0.6", "3", "10", "100.5", "200", "1000000000000", "-1000000000000", "-999999999999.999999"}
	texts := append([]string{"", "007", "-0", "0.05", "0.3", "1.25", "1.5", "2.50", "7", "100", "101", "150", "500000000000", "-500000000000"}, ends[2:]...)
	for _, lowest := range ends {
		for _, highest := range ends {
			for _, gap := range []string{"none", "any", "0", "0.000001", "0.5", "3", "7.25", "666666666666.666666", "1000000000000"} {
				for _, value := range []string{"none", "x", "0.6", "-3.7", "50", "1000000000000", "-1000000000000"} {
					attrs := with("value", value, "step", gap, "max", highest, "min", lowest)
					if got, want := Default(attrs), slowDefault(attrs); want.Cmp(big.NewInt(got)) != 0 {
						t.Errorf("Default(%v) is %d, not %v", attrs, got, want)
					}
					for _, s := range texts {
						check(t, api.KRange, attrs, s, slowRange(attrs, s))
					}
				}
			}
		}
	}
}

// TestP13_2Nearest looks at all numbers near 0, one by one, for the nearest that is within the bounds and on the steps.
func TestP13_2Nearest(t *testing.T) {
	for highest := int64(-3); highest <= 9; highest++ {
		for gap := int64(1); gap <= 6; gap++ {
			for value := int64(-7); value <= 7; value++ {
				for _, lowest := range []string{"none", number.Show(-4), number.Show(2)} {
					attrs := with("min", lowest, "max", number.Show(highest), "step", number.Show(gap), "value", number.Show(value))
					for n := int64(-8); n <= 12; n++ {
						check(t, api.KRange, attrs, number.Show(n), number.Show(nearest(attrs, n)))
					}
				}
			}
		}
	}
}

// nearest is n itself where no number is both within the bounds and on the steps.
func nearest(attrs []api.Attr, n int64) int64 {
	least, _ := step.Least(api.KRange, attrs)
	most, _ := step.Most(api.KRange, attrs)
	gap, _ := step.Step(api.KRange, attrs)
	base := step.Base(api.KRange, attrs)
	if n = max(n, least); most >= least {
		n = min(n, most)
	} else {
		most = n // bounds that are the wrong way round keep nothing down, but let nothing be moved up
	}
	best, found := n, false
	for k := base - 100*gap; k <= base+100*gap; k += gap {
		if k < least || k > most {
			continue
		}
		if away, ahead := max(k-n, n-k), max(best-n, n-best); !found || away <= ahead {
			best, found = k, true
		}
	}
	return best
}

func TestP13_3(t *testing.T) {
	again := func(kind int, attrs []api.Attr, s string) {
		once := Value(kind, attrs, s)
		if twice := Value(kind, attrs, once); twice != once {
			t.Errorf("Value(%d, %v, %.60q) is %.60q, and of that %.60q", kind, attrs, s, once, twice)
		}
	}
	lists := [][]api.Attr{nil, with("multiple", ""), with("min", "5", "max", "1", "step", "2"), with("min", "0.3", "max", "9.7", "step", "2.5"), with("max", "0.5", "step", "any"), with("min", "-1000000000000", "max", "1000000000000", "step", "7.000001"), with("min", "200"), with("max", "3.5")}
	for _, s := range samples {
		for _, attrs := range lists {
			for _, kind := range changing {
				again(kind, attrs, s)
				again(kind, append(slices.Clone(attrs), with("value", "0.6")...), s)
			}
			others(func(kind int) { again(kind, attrs, s) })
		}
	}
}

// TestP13_3OtherValue: the attribute value moves nothing that is clean, unless a range counts its steps from there.
func TestP13_3OtherValue(t *testing.T) {
	lists := [][]api.Attr{with("multiple", ""), with("min", "5", "max", "1", "step", "2"), with("min", "0.3", "max", "9.7", "step", "2.5"), with("step", "any"), with("min", "200")}
	for _, s := range samples {
		for _, attrs := range lists {
			for _, kind := range changing {
				if kind == api.KRange && attrs[0].Name == "multiple" {
					continue
				}
				once := Value(kind, attrs, s)
				for _, value := range []string{"", "0.6", "-3", "2020-01-01", "a,b"} {
					check(t, kind, append(with("value", value), attrs...), once, once)
				}
			}
		}
	}
	check(t, api.KRange, with("value", "0.6"), "7", "6.6")
	check(t, api.KRange, with("value", "0.3"), "6.6", "6.3")
}

// TestR4: attributes stay as they are, spare room included, and a text that is answered is of its own.
func TestR4(t *testing.T) {
	whole := with("value", "3", "step", "2", "min", "1", "min", "2", "max", "9", "multiple", "")
	kept := slices.Clone(whole)
	attrs := whole[:4]
	for range 2 {
		if n := Default(attrs); n != 50500000 {
			t.Errorf("Default looks behind the list's end: %d", n)
		}
		check(t, api.KEmail, attrs, "a , b", "a , b")
		check(t, api.KRange, attrs, "12", "13")
	}
	if !slices.Equal(whole, kept) {
		t.Errorf("the attributes were changed: %v", whole)
	}
	for kind := range 40 {
		for _, s := range []string{"a", "2020-02-29", "2020-02", "2020-W10", "12:00", "2020-01-01T00:00", "5", "#abcdef", " a ", "a,b", "101"} {
			one, two := Value(kind, attrs, s), Value(kind, attrs, s)
			if one != two || one != "" && unsafe.StringData(one) == unsafe.StringData(two) {
				t.Errorf("Value(%d, %q) is %q, then %q, or one text twice", kind, s, one, two)
			}
			at, from := uintptr(unsafe.Pointer(unsafe.StringData(one))), uintptr(unsafe.Pointer(unsafe.StringData(s)))
			if one != "" && at >= from && at < from+uintptr(len(s)) {
				t.Errorf("Value(%d, %q) holds on to the text it was given", kind, s)
			}
		}
	}
}
