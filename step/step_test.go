package step

import (
	"fmt"
	"math"
	"math/big"
	"slices"
	"strings"
	"testing"
	"unsafe"

	"counterfoil/api"
	"counterfoil/moment"
	"counterfoil/number"
)

const (
	dayLong  = int64(86400000)
	weekLong = 7 * dayLong
	edge     = int64(1000000000000000000) // 10^18
)

var counting = []int{api.KDate, api.KMonth, api.KWeek, api.KTime, api.KLocal, api.KNumber, api.KRange}

// others are numbers of kinds that don't count: those of other controls, and such as would be one of those if they were cut.
func others(f func(kind int)) {
	for kind := -40; kind <= 300; kind++ {
		if !slices.Contains(counting, kind) {
			f(kind)
		}
	}
	for kind := range 16 {
		for _, far := range []int{1 << 16, 1 << 31, 1 << 32, 1 << 62, math.MaxInt - 20, math.MinInt, -1 << 62, -1 << 32, -1 << 31, -1 << 16} {
			f(far + kind)
		}
	}
}

// with is a list of attributes: names and values by turns.
func with(l ...string) []api.Attr {
	var out []api.Attr
	for i := 0; i < len(l); i += 2 {
		out = append(out, api.Attr{Name: l[i], Value: l[i+1]})
	}
	return out
}

// answer is a number that may not be there.
type answer struct {
	n  int64
	ok bool
}

func (a answer) String() string { return fmt.Sprint(a.n, ", ", a.ok) }

func put(n int64, ok bool) answer { return answer{n, ok} }

// slowValue, slowLeast, slowMost, slowStep, slowBase and slowFlags are the chapter's words once more; the step is worked out by numbers without bounds.
func slowValue(kind int, s string) answer {
	kinds := map[int]int{8: 1, 9: 2, 10: 3, 11: 4, 12: 5}
	if m, ok := kinds[kind]; ok {
		n, e := moment.Parse(m, s)
		return answer{n, e == api.OK}
	}
	if kind == 13 || kind == 14 {
		n, e := number.Parse(s)
		return answer{n, e == api.OK}
	}
	return answer{}
}

func first(attrs []api.Attr, name string) (string, bool) {
	all := map[string]string{}
	for _, a := range slices.Backward(attrs) {
		all[a.Name] = a.Value
	}
	s, ok := all[name]
	return s, ok
}

func slowAttr(kind int, attrs []api.Attr, name string) answer {
	if s, ok := first(attrs, name); ok {
		return slowValue(kind, s)
	}
	return answer{}
}

func slowLeast(kind int, attrs []api.Attr) answer {
	if a := slowAttr(kind, attrs, "min"); a.ok {
		return a
	}
	return answer{0, kind == 14}
}

func slowMost(kind int, attrs []api.Attr) answer {
	a := slowAttr(kind, attrs, "max")
	if a.ok || kind != 14 {
		return a
	}
	if least := slowLeast(kind, attrs); least.n > 100000000 {
		return least
	}
	return answer{100000000, true}
}

func slowStep(kind int, attrs []api.Attr) answer {
	unit := map[int]int64{8: 86400000, 9: 1, 10: 604800000, 11: 1000, 12: 1000, 13: 1000000, 14: 1000000}[kind]
	usual := map[int]int64{8: 86400000, 9: 1, 10: 604800000, 11: 60000, 12: 60000, 13: 1000000, 14: 1000000}[kind]
	if unit == 0 {
		return answer{}
	}
	s, _ := first(attrs, "step")
	if len(s) == 3 && strings.Contains("aA", s[:1]) && strings.Contains("nN", s[1:2]) && strings.Contains("yY", s[2:]) {
		return answer{}
	}
	told, e := number.Parse(s)
	if e != api.OK {
		return answer{usual, true}
	}
	product := new(big.Int).Mul(big.NewInt(told), big.NewInt(unit))
	product.Div(product, big.NewInt(1000000)) // held down, below 0 too
	if product.Sign() <= 0 || product.Cmp(big.NewInt(edge)) > 0 {
		return answer{usual, true}
	}
	return answer{product.Int64(), true}
}

func slowBase(kind int, attrs []api.Attr) int64 {
	if a := slowAttr(kind, attrs, "min"); a.ok {
		return a.n
	}
	if a := slowAttr(kind, attrs, "value"); a.ok {
		return a.n
	}
	if kind == 10 {
		return -259200000
	}
	return 0
}

func slowFlags(kind int, attrs []api.Attr, s string) [3]bool {
	v := slowValue(kind, s)
	if !v.ok {
		return [3]bool{}
	}
	least, most, step := slowLeast(kind, attrs), slowMost(kind, attrs), slowStep(kind, attrs)
	var out [3]bool
	if least.ok && v.n < least.n {
		out[0] = true
	}
	if most.ok && v.n > most.n {
		out[1] = true
	}
	if kind == 11 && least.ok && most.ok && most.n < least.n {
		outside := v.n > most.n && v.n < least.n
		out[0], out[1] = outside, outside
	}
	if step.ok {
		gap := new(big.Int).Sub(big.NewInt(v.n), big.NewInt(slowBase(kind, attrs)))
		out[2] = gap.Mod(gap, big.NewInt(step.n)).Sign() != 0
	}
	return out
}

// samples are texts of each kind: with numbers, and without.
func samples(kind int) []string {
	wrong := []string{"", "x", "any"}
	switch kind {
	case api.KDate:
		return append(wrong, "1970-01-01", "1970-01-02", "1969-12-31", "2020-02-29", "2021-02-29", "0001-01-01", "275760-12-31", "275761-01-01")
	case api.KMonth:
		return append(wrong, "1970-01", "1970-02", "1969-12", "2020-05", "2020-13", "0001-01", "275760-12", "2020-05-01")
	case api.KWeek:
		return append(wrong, "1970-W01", "1970-W02", "1969-W52", "2020-W53", "2021-W53", "0001-W01", "275760-W52", "1970-01-01")
	case api.KTime:
		return append(wrong, "00:00", "00:01", "06:00", "06:00:00.5", "12:00", "22:00", "23:59:59.999", "24:00")
	case api.KLocal:
		return append(wrong, "1970-01-01T00:00", "1970-01-01 00:01:00.5", "1969-12-31T23:59:59.999", "2020-02-29T12:00", "0001-01-01T00:00", "275760-12-31T23:59:59.999", "2020-02-29", "12:00")
	}
	return append(wrong, "0", "1", "-1", "0.3", "1.3", "-.5", "50", "100", "100.000001", "200", "1000000000000", "-1000000000000", "1000000000001", "1e3", "0.0000001")
}

func TestP12_1Value(t *testing.T) {
	for _, c := range []struct {
		kind int
		s    string
		want answer
	}{
		{api.KDate, "1970-01-02", answer{dayLong, true}}, {api.KDate, "1969-12-31", answer{-dayLong, true}}, {api.KDate, "275760-12-31", answer{100000109 * dayLong, true}}, {api.KDate, "2021-02-29", answer{}}, {api.KDate, "1970-01", answer{}}, {api.KDate, "5", answer{}}, {api.KDate, "", answer{}},
		{api.KMonth, "1970-01", answer{0, true}}, {api.KMonth, "1969-12", answer{-1, true}}, {api.KMonth, "1971-02", answer{13, true}}, {api.KMonth, "1970-01-01", answer{}}, {api.KMonth, "13", answer{}},
		{api.KWeek, "1970-W01", answer{-259200000, true}}, {api.KWeek, "1970-W02", answer{-259200000 + weekLong, true}}, {api.KWeek, "2021-W53", answer{}}, {api.KWeek, "1970-01", answer{}},
		{api.KTime, "00:00", answer{0, true}}, {api.KTime, "01:01:01.5", answer{3661500, true}}, {api.KTime, "24:00", answer{}}, {api.KTime, "1970-01-01T00:00", answer{}}, {api.KTime, "1", answer{}},
		{api.KLocal, "2000-01-01 00:00", answer{946684800000, true}}, {api.KLocal, "2000-01-01T00:00", answer{946684800000, true}}, {api.KLocal, "00:00", answer{}}, {api.KLocal, "2000-01-01", answer{}},
		{api.KNumber, "-.5", answer{-500000, true}}, {api.KNumber, "1.5", answer{1500000, true}}, {api.KNumber, "-0", answer{0, true}}, {api.KNumber, "1000000000000", answer{edge, true}}, {api.KNumber, "-1000000000000", answer{-edge, true}},
		{api.KNumber, "1000000000000.1", answer{}}, {api.KNumber, "1.", answer{}}, {api.KNumber, "1e3", answer{}}, {api.KNumber, "+1", answer{}}, {api.KNumber, "", answer{}}, {api.KNumber, "1970-01-01", answer{}}, {api.KNumber, "0.0000001", answer{}}, {api.KNumber, " 1", answer{}},
		{api.KRange, "-.5", answer{-500000, true}}, {api.KRange, "101", answer{101000000, true}}, {api.KRange, "x", answer{}}, {api.KRange, "", answer{}}, {api.KRange, "00:00", answer{}},
	} {
		if got := put(Value(c.kind, c.s)); got != c.want {
			t.Errorf("Value(%d, %q) is %v, not %v", c.kind, c.s, got, c.want)
		}
	}
	for _, kind := range counting {
		for _, of := range counting {
			for _, s := range samples(of) {
				if got, want := put(Value(kind, s)), slowValue(kind, s); got != want {
					t.Errorf("Value(%d, %q) is %v, not %v", kind, s, got, want)
				}
			}
		}
	}
}

func TestP12_1Show(t *testing.T) {
	for _, c := range []struct {
		kind int
		n    int64
		want string
	}{
		{api.KDate, 0, "1970-01-01"}, {api.KDate, -dayLong, "1969-12-31"}, {api.KDate, 1, ""}, {api.KDate, 100000109 * dayLong, "275760-12-31"}, {api.KDate, 100000110 * dayLong, ""}, {api.KDate, -719162 * dayLong, "0001-01-01"}, {api.KDate, -719163 * dayLong, ""},
		{api.KMonth, 0, "1970-01"}, {api.KMonth, -1, "1969-12"}, {api.KMonth, 3285491, "275760-12"}, {api.KMonth, 3285492, ""}, {api.KMonth, -23628, "0001-01"}, {api.KMonth, -23629, ""},
		{api.KWeek, -259200000, "1970-W01"}, {api.KWeek, 0, ""}, {api.KWeek, -259200000 + weekLong, "1970-W02"}, {api.KWeek, -259200000 + dayLong, ""},
		{api.KTime, 0, "00:00"}, {api.KTime, 3661500, "01:01:01.5"}, {api.KTime, dayLong - 1, "23:59:59.999"}, {api.KTime, dayLong, ""}, {api.KTime, -1, ""},
		{api.KLocal, 946684800000, "2000-01-01T00:00"}, {api.KLocal, -1, "1969-12-31T23:59:59.999"}, {api.KLocal, 100000110 * dayLong, ""}, {api.KLocal, -719162*dayLong - 1, ""},
		{api.KNumber, 1500000, "1.5"}, {api.KNumber, 0, "0"}, {api.KNumber, -1, "-0.000001"}, {api.KNumber, edge, "1000000000000"}, {api.KNumber, edge + 1, ""}, {api.KNumber, -edge, "-1000000000000"}, {api.KNumber, -edge - 1, ""}, {api.KNumber, edge - 1, "999999999999.999999"}, {api.KNumber, 1 - edge, "-999999999999.999999"},
		{api.KRange, 1500000, "1.5"}, {api.KRange, -1500000, "-1.5"}, {api.KRange, edge, "1000000000000"}, {api.KRange, edge + 1, ""}, {api.KRange, -edge, "-1000000000000"}, {api.KRange, -edge - 1, ""},
	} {
		if s, ok := Show(c.kind, c.n); s != c.want || ok != (c.want != "") {
			t.Errorf("Show(%d, %d) is %q, %v, not %q", c.kind, c.n, s, ok, c.want)
		}
	}
	for _, kind := range counting {
		for _, n := range []int64{math.MaxInt64, math.MinInt64, math.MaxInt64 - 1, math.MinInt64 + 1, math.MaxInt64 / weekLong * weekLong, math.MinInt64 / weekLong * weekLong} {
			if s, ok := Show(kind, n); s != "" || ok {
				t.Errorf("Show(%d, %d) is %q, %v", kind, n, s, ok)
			}
		}
	}
}

// TestOthers: a kind that doesn't count has nothing, whatever its attributes and its text.
func TestOthers(t *testing.T) {
	lists := [][]api.Attr{nil, with("min", "5", "max", "1", "step", "2", "value", "3"), with("min", "22:00", "max", "06:00", "value", "12:00"), with("min", "2020-W10", "value", "2020-W11"), with("step", "any")}
	others(func(kind int) {
		for _, s := range []string{"", "1", "12:00", "1970-01-01", "1970-01", "1970-W01", "1970-01-01T00:00"} {
			if got := put(Value(kind, s)); got != (answer{}) {
				t.Errorf("Value(%d, %q) is %v", kind, s, got)
			}
			for _, attrs := range lists {
				if under, over, off := Flags(kind, attrs, s); under || over || off {
					t.Errorf("Flags(%d, %v, %q) is %v, %v, %v", kind, attrs, s, under, over, off)
				}
			}
		}
		for _, n := range []int64{0, 1, -259200000, dayLong} {
			if s, ok := Show(kind, n); s != "" || ok {
				t.Errorf("Show(%d, %d) is %q, %v", kind, n, s, ok)
			}
		}
		for _, attrs := range lists {
			if a, b, c := put(Least(kind, attrs)), put(Most(kind, attrs)), put(Step(kind, attrs)); a != (answer{}) || b != (answer{}) || c != (answer{}) {
				t.Errorf("the bounds and the step of kind %d with %v are %v, %v, %v", kind, attrs, a, b, c)
			}
			if n := Base(kind, attrs); n != 0 {
				t.Errorf("Base(%d, %v) is %d", kind, attrs, n)
			}
		}
	})
}

func TestP12_2Bounds(t *testing.T) {
	const one = int64(1000000)
	for _, c := range []struct {
		kind        int
		attrs       []api.Attr
		least, most answer
	}{
		{api.KDate, nil, answer{}, answer{}}, {api.KMonth, nil, answer{}, answer{}}, {api.KWeek, nil, answer{}, answer{}}, {api.KTime, nil, answer{}, answer{}}, {api.KLocal, nil, answer{}, answer{}}, {api.KNumber, nil, answer{}, answer{}},
		{api.KRange, nil, answer{0, true}, answer{100 * one, true}}, {api.KRange, []api.Attr{}, answer{0, true}, answer{100 * one, true}}, {api.KRange, with("min", "x", "max", "y"), answer{0, true}, answer{100 * one, true}}, {api.KRange, with("min", "", "max", ""), answer{0, true}, answer{100 * one, true}},
		{api.KRange, with("min", "99"), answer{99 * one, true}, answer{100 * one, true}}, {api.KRange, with("min", "100"), answer{100 * one, true}, answer{100 * one, true}}, {api.KRange, with("min", "100.000001"), answer{100*one + 1, true}, answer{100*one + 1, true}}, {api.KRange, with("min", "200"), answer{200 * one, true}, answer{200 * one, true}}, {api.KRange, with("min", "-5"), answer{-5 * one, true}, answer{100 * one, true}},
		{api.KRange, with("max", "-5"), answer{0, true}, answer{-5 * one, true}}, {api.KRange, with("min", "200", "max", "10"), answer{200 * one, true}, answer{10 * one, true}}, {api.KRange, with("min", "200", "max", "x"), answer{200 * one, true}, answer{200 * one, true}}, {api.KRange, with("max", "0"), answer{0, true}, answer{0, true}}, {api.KRange, with("min", "1000000000001"), answer{0, true}, answer{100 * one, true}},
		{api.KNumber, with("min", "0", "max", "0"), answer{0, true}, answer{0, true}}, {api.KNumber, with("min", "1.5"), answer{1500000, true}, answer{}}, {api.KNumber, with("max", "-1000000000000"), answer{}, answer{-edge, true}}, {api.KNumber, with("min", "5", "max", "x"), answer{5 * one, true}, answer{}}, {api.KNumber, with("min", "1e3", "max", "1970-01-01"), answer{}, answer{}},
		{api.KDate, with("min", "2020-01-01", "max", "2019-01-01"), answer{18262 * dayLong, true}, answer{17897 * dayLong, true}}, {api.KDate, with("min", "2020-01", "max", "5"), answer{}, answer{}}, {api.KMonth, with("min", "1970-03", "max", "1969-01"), answer{2, true}, answer{-12, true}}, {api.KWeek, with("min", "1970-W01", "max", "1970-W02"), answer{-259200000, true}, answer{345600000, true}}, {api.KTime, with("min", "22:00", "max", "06:00"), answer{79200000, true}, answer{21600000, true}}, {api.KLocal, with("max", "1970-01-01 00:00:00.001"), answer{}, answer{1, true}},
		{api.KNumber, with("min", "1", "min", "2", "max", "3", "max", "4"), answer{one, true}, answer{3 * one, true}}, {api.KNumber, with("min", "x", "min", "2", "max", "", "max", "4"), answer{}, answer{}}, {api.KRange, with("min", "x", "min", "2", "max", "x", "max", "4"), answer{0, true}, answer{100 * one, true}},
		{api.KNumber, with("MIN", "1", "Max", "2", "min ", "3", "", "4", "minimum", "5", "value", "6"), answer{}, answer{}}, {api.KNumber, with("value", "max", "a", "min", "max", "7", "min", "8"), answer{8 * one, true}, answer{7 * one, true}},
	} {
		if least, most := put(Least(c.kind, c.attrs)), put(Most(c.kind, c.attrs)); least != c.least || most != c.most {
			t.Errorf("the bounds of kind %d with %v are %v and %v, not %v and %v", c.kind, c.attrs, least, most, c.least, c.most)
		}
	}
}

func TestP12_2Step(t *testing.T) {
	usual := map[int]int64{api.KDate: dayLong, api.KMonth: 1, api.KWeek: weekLong, api.KTime: 60000, api.KLocal: 60000, api.KNumber: 1000000, api.KRange: 1000000}
	units := map[int]int64{api.KDate: dayLong, api.KMonth: 1, api.KWeek: weekLong, api.KTime: 1000, api.KLocal: 1000, api.KNumber: 1000000, api.KRange: 1000000}
	for _, kind := range counting {
		for _, s := range []string{"", "x", "0", "-0", "0.0", "-1", "-0.5", "-1000000000000", "1e3", "+1", "1.", " 1", "1 ", "all", "an", "anyy", " any", "any ", "a\u0147y", "0.0000001", "1000000000001", "1000000000000.1", strings.Repeat("9", 5000), "1970-01-01", "\xff"} {
			if got := put(Step(kind, with("step", s))); got != (answer{usual[kind], true}) {
				t.Errorf("Step of kind %d and %.20q is %v", kind, s, got)
			}
		}
		for _, attrs := range [][]api.Attr{nil, {}, with("Step", "2"), with("STEP", "any"), with("steps", "2", "", "any", "ste", "2"), with("min", "1", "value", "step"), with("step", "x", "step", "2"), with("step", "", "step", "any")} {
			if got := put(Step(kind, attrs)); got != (answer{usual[kind], true}) {
				t.Errorf("Step of kind %d and %v is %v", kind, attrs, got)
			}
		}
		for _, s := range []string{"any", "Any", "aNy", "anY", "ANy", "AnY", "aNY", "ANY"} {
			if got := put(Step(kind, with("value", "1", "step", s, "step", "2"))); got != (answer{}) {
				t.Errorf("Step of kind %d and %q is %v", kind, s, got)
			}
		}
		for _, s := range []string{"2", "02", "2.000000", "2.0000000000"} {
			if got := put(Step(kind, with("min", "9", "step", s, "step", "any"))); got != (answer{2 * units[kind], true}) {
				t.Errorf("Step of kind %d and %q is %v", kind, s, got)
			}
		}
	}
	for _, c := range []struct {
		kind int
		s    string
		want int64
	}{
		{api.KDate, "0.5", dayLong / 2}, {api.KDate, "1.5", dayLong / 2 * 3}, {api.KDate, "0.000001", 86}, {api.KDate, ".000002", 172}, {api.KDate, "0.000005", 432}, {api.KDate, "11574074074", 11574074074 * dayLong}, {api.KDate, "11574074074.074074", 999999999999999993}, {api.KDate, "11574074074.074075", dayLong}, {api.KDate, "11574074075", dayLong}, {api.KDate, "1000000000000", dayLong},
		{api.KMonth, "0.999999", 1}, {api.KMonth, "1.999999", 1}, {api.KMonth, "2.5", 2}, {api.KMonth, "1000000000000", 1000000000000}, {api.KMonth, "0.5", 1},
		{api.KWeek, "0.000001", 604}, {api.KWeek, "1653439153.439153", 999999999999999734}, {api.KWeek, "1653439153.439154", weekLong}, {api.KWeek, "1653439153", 1653439153 * weekLong}, {api.KWeek, "1653439154", weekLong}, {api.KWeek, "1000000000000", weekLong}, {api.KWeek, "30500568904", weekLong}, {api.KWeek, "30500568905.5", weekLong},
		{api.KTime, "0.001", 1}, {api.KTime, "0.000999", 60000}, {api.KTime, "0.0001", 60000}, {api.KTime, "0.0019", 1}, {api.KTime, "60", 60000}, {api.KTime, "1000000000000", 1000000000000000},
		{api.KLocal, "0.001", 1}, {api.KLocal, "0.000999", 60000}, {api.KLocal, "1", 1000}, {api.KLocal, "3600", 3600000},
		{api.KNumber, "0.000001", 1}, {api.KNumber, "0.3", 300000}, {api.KNumber, "1000000000000", edge}, {api.KNumber, "999999999999.999999", edge - 1},
		{api.KRange, "0.000001", 1}, {api.KRange, "12.5", 12500000}, {api.KRange, "1000000000000", edge},
	} {
		if got := put(Step(c.kind, with("step", c.s))); got != (answer{c.want, true}) {
			t.Errorf("Step of kind %d and %q is %v, not %d", c.kind, c.s, got, c.want)
		}
	}
}

// TestP12_2StepAll holds steps of all sizes against numbers without bounds.
func TestP12_2StepAll(t *testing.T) {
	ask := func(n int64) {
		for _, kind := range counting {
			attrs := with("step", number.Show(n))
			if got, want := put(Step(kind, attrs)), slowStep(kind, attrs); got != want {
				t.Errorf("Step of kind %d and %v is %v, not %v", kind, attrs, got, want)
			}
		}
	}
	for n := int64(-3000); n <= 3000; n++ {
		ask(n)
	}
	for size := int64(1); size <= edge && size > 0; size = size*3/2 + 1 {
		for near := int64(-3); near <= 3; near++ {
			ask(size + near)
			ask(-size + near)
		}
	}
	for _, unit := range []int64{dayLong, weekLong, 1000} {
		around := new(big.Int).Div(new(big.Int).Mul(big.NewInt(edge), big.NewInt(1000000)), big.NewInt(unit))
		wrapped := new(big.Int).Div(new(big.Int).Lsh(big.NewInt(1), 64), big.NewInt(unit))
		for near := int64(-2000); near <= 2000; near++ {
			if around.IsInt64() && around.Int64() <= edge {
				ask(around.Int64() + near)
			}
			ask(wrapped.Int64()*1000000 + near)
			ask(wrapped.Int64() + near)
		}
	}
}

func TestP12_2Base(t *testing.T) {
	for _, c := range []struct {
		kind  int
		attrs []api.Attr
		want  int64
	}{
		{api.KDate, nil, 0}, {api.KMonth, nil, 0}, {api.KWeek, nil, -259200000}, {api.KTime, nil, 0}, {api.KLocal, nil, 0}, {api.KNumber, nil, 0}, {api.KRange, nil, 0},
		{api.KNumber, with("value", "2", "min", "1"), 1000000}, {api.KNumber, with("min", "x", "value", "2"), 2000000}, {api.KNumber, with("min", "x", "value", "y"), 0}, {api.KNumber, with("min", "0", "value", "2"), 0}, {api.KNumber, with("max", "3", "step", "2"), 0}, {api.KNumber, with("value", "1", "value", "2"), 1000000}, {api.KNumber, with("value", "x", "value", "2"), 0}, {api.KNumber, with("min", "x", "min", "1", "value", "2"), 2000000}, {api.KNumber, with("Min", "1", "VALUE", "2"), 0},
		{api.KRange, with("value", "2"), 2000000}, {api.KRange, with("min", "1000", "value", "2"), 1000000000}, {api.KRange, with("max", "-1"), 0}, {api.KRange, with("min", "-1.5"), -1500000},
		{api.KWeek, with("min", "1970-W02"), 345600000}, {api.KWeek, with("min", "2021-W53", "value", "1970-W03"), 950400000}, {api.KWeek, with("min", "x", "value", "1970-01-01"), -259200000}, {api.KWeek, with("value", "1970-W02", "min", "1970-W01"), -259200000},
		{api.KDate, with("value", "1970-01-02"), dayLong}, {api.KDate, with("min", "1970-01-03", "value", "1970-01-02"), 2 * dayLong}, {api.KDate, with("min", "1970-01", "value", "7"), 0}, {api.KMonth, with("min", "1969-12"), -1}, {api.KTime, with("value", "00:00:00.001"), 1}, {api.KLocal, with("value", "1969-12-31 23:59:59.999"), -1},
	} {
		if got := Base(c.kind, c.attrs); got != c.want {
			t.Errorf("Base(%d, %v) is %d, not %d", c.kind, c.attrs, got, c.want)
		}
	}
}

func TestP12_3(t *testing.T) {
	for _, c := range []struct {
		kind  int
		attrs []api.Attr
		s     string
		want  [3]bool
	}{
		{api.KDate, with("min", "2020-01-01", "step", "2"), "2020-01-01", [3]bool{}}, {api.KDate, with("min", "2020-01-01", "step", "2"), "2020-01-02", [3]bool{false, false, true}}, {api.KDate, with("min", "2020-01-01", "step", "2"), "2020-01-03", [3]bool{}}, {api.KDate, with("min", "2020-01-01", "step", "2"), "2019-12-30", [3]bool{true, false, false}}, {api.KDate, with("min", "2020-01-01", "step", "2"), "2019-12-31", [3]bool{true, false, true}},
		{api.KDate, with("max", "2020-01-01"), "2020-01-01", [3]bool{}}, {api.KDate, with("max", "2020-01-01"), "2020-01-02", [3]bool{false, true, false}}, {api.KDate, with("min", "2020-01-05", "max", "2020-01-01"), "2020-01-03", [3]bool{true, true, false}}, {api.KDate, with("min", "2020-01-05", "max", "2020-01-01"), "2020-01-07", [3]bool{false, true, false}}, {api.KDate, with("min", "2020-01-01", "max", "2019-01-01"), "2021-02-29", [3]bool{}},
		{api.KNumber, with("step", "any"), "0.000001", [3]bool{}}, {api.KNumber, with("step", "any", "min", "1", "max", "0"), "0.5", [3]bool{true, true, false}}, {api.KNumber, nil, "0.3", [3]bool{false, false, true}}, {api.KNumber, nil, "-3", [3]bool{}}, {api.KNumber, with("value", "0.3"), "1.3", [3]bool{}}, {api.KNumber, with("value", "0.3"), "-1.7", [3]bool{}}, {api.KNumber, with("value", "0.3"), "1", [3]bool{false, false, true}}, {api.KNumber, with("min", "5", "max", "1", "step", "2"), "", [3]bool{}}, {api.KNumber, with("min", "5", "max", "1", "step", "2"), "x", [3]bool{}}, {api.KNumber, with("min", "0", "max", "0"), "0", [3]bool{}},
		{api.KNumber, with("min", "-1000000000000", "step", "1000000000000"), "1000000000000", [3]bool{}}, {api.KNumber, with("min", "-1000000000000", "step", "1000000000000"), "1", [3]bool{false, false, true}}, {api.KNumber, with("min", "1000000000000"), "-1000000000000", [3]bool{true, false, false}},
		{api.KRange, nil, "100", [3]bool{}}, {api.KRange, nil, "101", [3]bool{false, true, false}}, {api.KRange, nil, "-1", [3]bool{true, false, false}}, {api.KRange, nil, "0", [3]bool{}}, {api.KRange, with("min", "200"), "200", [3]bool{}}, {api.KRange, with("min", "200"), "150", [3]bool{true, false, false}}, {api.KRange, with("min", "200"), "200.5", [3]bool{false, true, true}}, {api.KRange, with("max", "-10"), "-5", [3]bool{true, true, false}}, {api.KRange, with("min", "20", "max", "10"), "15", [3]bool{true, true, false}}, {api.KRange, with("min", "20", "max", "10"), "25", [3]bool{false, true, false}},
		{api.KTime, with("min", "22:00", "max", "06:00"), "12:00", [3]bool{true, true, false}}, {api.KTime, with("min", "22:00", "max", "06:00"), "23:00", [3]bool{}}, {api.KTime, with("min", "22:00", "max", "06:00"), "05:00", [3]bool{}}, {api.KTime, with("min", "22:00", "max", "06:00"), "22:00", [3]bool{}}, {api.KTime, with("min", "22:00", "max", "06:00"), "06:00", [3]bool{}}, {api.KTime, with("min", "22:00", "max", "06:00"), "06:01", [3]bool{true, true, false}}, {api.KTime, with("min", "22:00", "max", "06:00"), "21:59:59.999", [3]bool{true, true, true}},
		{api.KTime, with("min", "12:00", "max", "12:00"), "11:00", [3]bool{true, false, false}}, {api.KTime, with("min", "12:00", "max", "12:00"), "13:00", [3]bool{false, true, false}}, {api.KTime, with("min", "06:00", "max", "22:00"), "05:00", [3]bool{true, false, false}}, {api.KTime, with("min", "06:00", "max", "22:00"), "23:00", [3]bool{false, true, false}}, {api.KTime, with("min", "06:00"), "05:00", [3]bool{true, false, false}}, {api.KTime, with("max", "06:00"), "07:00", [3]bool{false, true, false}}, {api.KTime, with("min", "22:00", "max", "x"), "12:00", [3]bool{true, false, false}}, {api.KTime, with("max", "06:00", "min", ""), "12:00", [3]bool{false, true, false}},
		{api.KTime, nil, "10:00:00.5", [3]bool{false, false, true}}, {api.KTime, with("step", "0.5"), "10:00:00.5", [3]bool{}}, {api.KTime, with("step", "0.5"), "10:00:00.25", [3]bool{false, false, true}}, {api.KTime, with("value", "10:00:30"), "11:00:30", [3]bool{}},
		{api.KLocal, with("min", "2020-01-02T22:00", "max", "2020-01-02T06:00"), "2020-01-02T12:00", [3]bool{true, true, false}}, {api.KLocal, with("min", "2020-01-02T22:00", "max", "2020-01-02T06:00"), "2020-01-02T23:00", [3]bool{false, true, false}}, {api.KLocal, nil, "2020-01-02T22:00:01", [3]bool{false, false, true}},
		{api.KWeek, nil, "2020-W10", [3]bool{}}, {api.KWeek, with("step", "2"), "1970-W02", [3]bool{false, false, true}}, {api.KWeek, with("step", "2"), "1970-W03", [3]bool{}}, {api.KWeek, with("step", "2", "value", "1970-W02"), "1970-W04", [3]bool{}}, {api.KWeek, with("min", "1970-W03"), "1970-W02", [3]bool{true, false, false}}, {api.KMonth, with("step", "3", "min", "2020-01"), "2020-05", [3]bool{false, false, true}}, {api.KMonth, with("step", "3", "min", "2020-01"), "2019-10", [3]bool{true, false, false}}, {api.KMonth, with("step", "0.5"), "2020-05", [3]bool{}},
	} {
		var got [3]bool
		got[0], got[1], got[2] = Flags(c.kind, c.attrs, c.s)
		if got != c.want {
			t.Errorf("Flags(%d, %v, %q) is %v, not %v", c.kind, c.attrs, c.s, got, c.want)
		}
	}
}

// TestAll holds everything against the slow way, at all of min, max, step, value and text out of the samples.
func TestAll(t *testing.T) {
	for _, kind := range counting {
		texts := samples(kind)
		ends := append([]string{"none"}, texts...)
		steps := []string{"none", "any", "x", "0.000001", "0.5", "2", "7", "1000000000000"}
		for _, lowest := range ends {
			for _, highest := range ends {
				for _, step := range steps {
					for _, value := range []string{"none", texts[0], texts[4], texts[6]} {
						var attrs []api.Attr
						for _, a := range with("value", value, "step", step, "max", highest, "min", lowest) {
							if a.Value != "none" {
								attrs = append(attrs, a)
							}
						}
						hold(t, kind, attrs, texts)
					}
				}
			}
		}
	}
}

func hold(t *testing.T, kind int, attrs []api.Attr, texts []string) {
	t.Helper()
	if got, want := put(Least(kind, attrs)), slowLeast(kind, attrs); got != want {
		t.Errorf("Least(%d, %v) is %v, not %v", kind, attrs, got, want)
	}
	if got, want := put(Most(kind, attrs)), slowMost(kind, attrs); got != want {
		t.Errorf("Most(%d, %v) is %v, not %v", kind, attrs, got, want)
	}
	if got, want := put(Step(kind, attrs)), slowStep(kind, attrs); got != want {
		t.Errorf("Step(%d, %v) is %v, not %v", kind, attrs, got, want)
	}
	if got, want := Base(kind, attrs), slowBase(kind, attrs); got != want {
		t.Errorf("Base(%d, %v) is %d, not %d", kind, attrs, got, want)
	}
	for _, s := range texts {
		var got [3]bool
		got[0], got[1], got[2] = Flags(kind, attrs, s)
		if want := slowFlags(kind, attrs, s); got != want {
			t.Errorf("Flags(%d, %v, %q) is %v, not %v", kind, attrs, s, got, want)
		}
	}
}

func TestP12_4(t *testing.T) {
	back := func(kind int, s string) {
		n, ok := Value(kind, s)
		if !ok {
			return
		}
		shown, fine := Show(kind, n)
		if got := put(Value(kind, shown)); !fine || got != (answer{n, true}) {
			t.Errorf("of kind %d %q has %d, whose text %q (%v) has %v", kind, s, n, shown, fine, got)
		}
	}
	for _, kind := range counting {
		for _, of := range counting {
			for _, s := range samples(of) {
				back(kind, s)
			}
		}
	}
	for n := range 3000 {
		back(api.KDate, fmt.Sprintf("%04d-%02d-%02d", 1+n*91, 1+n%12, 1+n%28))
		back(api.KMonth, fmt.Sprintf("%04d-%02d", 1+n*91, 1+n%12))
		back(api.KWeek, fmt.Sprintf("%04d-W%02d", 1+n*91, 1+n%53))
		back(api.KTime, fmt.Sprintf("%02d:%02d:%02d.%d", n%24, n%60, n/7%60, n%1000))
		back(api.KLocal, fmt.Sprintf("%04d-%02d-%02d %02d:%02d:%02d.%03d", 1+n*91, 1+n%12, 1+n%28, n%24, n%60, n/7%60, n%1000))
		for _, kind := range []int{api.KNumber, api.KRange} {
			back(kind, fmt.Sprintf("-%d.%06d000", n*333333333, n*331))
			back(kind, fmt.Sprintf("000%d.%d", n, n))
		}
	}
}

// TestR4: attributes stay as they are, spare room included, and a text that is answered is of its own.
func TestR4(t *testing.T) {
	whole := with("value", "3", "step", "AnY", "min", "1", "min", "2", "max", "9", "spare", "x")
	kept := slices.Clone(whole)
	attrs := whole[:4]
	for range 2 {
		Least(api.KNumber, attrs)
		Step(api.KNumber, attrs)
		Base(api.KNumber, attrs)
		Flags(api.KNumber, attrs, "4")
		if got := put(Most(api.KNumber, attrs)); got != (answer{}) {
			t.Errorf("Most looks behind the list's end: %v", got)
		}
	}
	if !slices.Equal(whole, kept) {
		t.Errorf("the attributes were changed: %v", whole)
	}
	for _, kind := range counting {
		n := int64(0)
		if kind == api.KWeek {
			n = -259200000
		}
		one, _ := Show(kind, n)
		two, _ := Show(kind, n)
		if one != two || unsafe.StringData(one) == unsafe.StringData(two) {
			t.Errorf("Show(%d, %d) is %q, then %q, or one text twice", kind, n, one, two)
		}
	}
}
