package number

import (
	"math"
	"math/big"
	"regexp"
	"strconv"
	"strings"
	"testing"

	"counterfoil/api"
)

const most = int64(api.MaxWhole) * 1000000

// edges are numbers at which something may turn.
func edges() []int64 {
	var out []int64
	for _, n := range []int64{0, 10, 100000, 1000000, 1500000, 10000000, 123456789, 1 << 31, 1 << 32, most / 2, most, 1 << 62, math.MaxInt64 - 2} {
		for _, near := range []int64{n - 2, n - 1, n, n + 1, n + 2} {
			out = append(out, near, -near)
		}
	}
	return append(out, math.MinInt64, math.MinInt64+1, math.MaxInt64)
}

// each goes through all texts of up to six pieces of those that a number may have, and of some that it may not.
func each(f func(s string)) {
	pieces := []string{"-", ".", "0", "5", "00000", "1000000000000", "e"}
	var grow func(s string, left int)
	grow = func(s string, left int) {
		f(s)
		if left == 0 {
			return
		}
		for _, p := range pieces {
			grow(s+p, left-1)
		}
	}
	grow("", 6)
}

var aNumber = regexp.MustCompile(`\A-?([0-9]+|[0-9]+\.[0-9]+|\.[0-9]+)\z`)

// slowParse works with numbers without bounds.
func slowParse(s string) (int64, api.Errno) {
	if !aNumber.MatchString(s) {
		return 0, api.ErrForm
	}
	sign, body := "", s
	if s[0] == '-' {
		sign, body = "-", s[1:]
	}
	ahead, behind, _ := strings.Cut(body, ".")
	for len(behind) < 6 {
		behind += "0"
	}
	if strings.Trim(behind[6:], "0") != "" {
		return 0, api.ErrRange
	}
	n, ok := new(big.Int).SetString(sign+ahead+behind[:6], 10)
	if !ok {
		panic(s)
	}
	if n.CmpAbs(big.NewInt(most)) > 0 {
		return 0, api.ErrRange
	}
	return n.Int64(), api.OK
}

func slowShow(n int64) string {
	amount := new(big.Int).Abs(big.NewInt(n)).String()
	for len(amount) < 7 {
		amount = "0" + amount
	}
	out := amount[:len(amount)-6] + "." + amount[len(amount)-6:]
	for strings.HasSuffix(out, "0") {
		out = out[:len(out)-1]
	}
	out = strings.TrimSuffix(out, ".")
	if n < 0 {
		out = "-" + out
	}
	return out
}

// slowDown works with numbers without bounds; over is how far n is above what fits.
func slowDown(n, base, step int64) (down int64, ok bool, over *big.Int) {
	difference := new(big.Int).Sub(big.NewInt(n), big.NewInt(base))
	over = new(big.Int).Mod(difference, big.NewInt(step)) // from 0 up
	best := new(big.Int).Sub(big.NewInt(n), over)
	if !best.IsInt64() {
		return 0, false, over
	}
	return best.Int64(), true, over
}

func TestP3_1(t *testing.T) {
	for _, c := range []struct {
		in   string
		want int64
	}{
		{"0", 0}, {"1", 1000000}, {"-1", -1000000}, {"42", 42000000}, {"9", 9000000}, {"-0", 0}, {"0.0", 0}, {"-.0", 0}, {"-0.000000000", 0},
		{"1.5", 1500000}, {"-1.5", -1500000}, {".5", 500000}, {"-.5", -500000}, {"0.5", 500000}, {"00.50", 500000},
		{"12.345678", 12345678}, {"-12.345678", -12345678}, {"0.1", 100000}, {"0.01", 10000}, {"0.000001", 1}, {"-.000001", -1}, {".999999", 999999},
		{"0.0000010", 1}, {"0.00000100000000000000000000000000", 1}, {"3.1415920", 3141592}, // noughts behind the sixth place
		{"000000000000000000000000000007", 7000000}, {"-0000000000001000000000000", -most}, // noughts ahead
		{"1000000000000", most}, {"-1000000000000", -most}, {"1000000000000.0", most}, {"-1000000000000.0000000000", -most},
		{"999999999999.999999", most - 1}, {"-999999999999.999999", 1 - most},
		{"0." + strings.Repeat("0", 5000), 0}, {strings.Repeat("0", 5000) + "1", 1000000},
	} {
		if got, e := Parse(c.in); got != c.want || e != api.OK {
			t.Errorf("Parse(%q) is %d and %d, not %d", c.in, got, e, c.want)
		}
	}
}

func TestP3_1Form(t *testing.T) {
	for _, s := range []string{
		"", "-", ".", "-.", "1.", "-1.", "+1", "+.5", "--1", "1-", "1-2", "-+1", ".-5", "1.-5", "-.-5", "1..2", "..5", "1.2.3", ".5.", "1.5.",
		"1e3", "1E3", "1.5e1", "e", "0x10", "1,5", "1_000", "1 000", " 1", "1 ", "- 1", "\t1", "1\n", "1\x00", "\x001", "Infinity", "-Infinity", "NaN", "inf", "1f", "a",
		"/", ":", "1/", "1:", ".5/", ".5:", "-/", // the neighbours of the digits
		"１", "٣", "−1", "1.\u0660", "\xff", "1\xb2", "½",
		"1000000000001.", "99999999999999999999999999.", "+1000000000001", "1000000000001x", "0.0000001x", "0.0000001.", // not formed so ahead of beyond its bounds
	} {
		if got, e := Parse(s); got != 0 || e != api.ErrForm {
			t.Errorf("Parse(%q) is %d and %d", s, got, e)
		}
	}
}

func TestP3_1Range(t *testing.T) {
	for _, s := range []string{
		"1000000000001", "-1000000000001", "1000000000001.0", "0001000000000001", "10000000000000", "2000000000000", "9999999999999",
		"1000000000000.1", "-1000000000000.1", "1000000000000.000001", "1000000000000.0000001", "1000000000000.00000000000000000001",
		"0.0000001", "-0.0000001", ".0000001", "1.2345678", "0.1234560001", "5.00000000000000000001", "0.0000009", "0.9999999",
		"9223372036854", "9223372036854775807", "9223372036854775808", "9223372036855", "18446744073709551616", "18446744073709551617", "18446744073710.551616", // where 64 bits end or turn round
		strings.Repeat("9", 5000), "-" + strings.Repeat("1", 5000), "1" + strings.Repeat("0", 64), "0." + strings.Repeat("0", 5000) + "1", "0." + strings.Repeat("3", 5000),
	} {
		if got, e := Parse(s); got != 0 || e != api.ErrRange {
			t.Errorf("Parse(%q) is %d and %d", s, got, e)
		}
	}
}

func TestP3_1All(t *testing.T) {
	check := func(s string) {
		got, e := Parse(s)
		if want, wantE := slowParse(s); got != want || e != wantE {
			t.Fatalf("Parse(%q) is %d and %d, not %d and %d", s, got, e, want, wantE)
		}
	}
	each(check)
	for i := range 256 {
		c := string([]byte{byte(i)})
		for _, s := range []string{c, "-" + c, "1" + c, c + "1", "." + c, "1." + c, ".1" + c, "1" + c + "1"} {
			check(s)
		}
	}
	for places := range 12 {
		for _, digit := range []string{"1", "9"} {
			check("7." + strings.Repeat("0", places) + digit)
			check("-7." + strings.Repeat(digit, places) + "00000000")
		}
	}
}

func TestP3_2(t *testing.T) {
	for _, c := range []struct {
		in   int64
		want string
	}{
		{0, "0"}, {1, "0.000001"}, {-1, "-0.000001"}, {10, "0.00001"}, {100000, "0.1"}, {-100000, "-0.1"}, {999999, "0.999999"}, {-999999, "-0.999999"},
		{1000000, "1"}, {-1000000, "-1"}, {1000001, "1.000001"}, {1500000, "1.5"}, {-1500000, "-1.5"}, {1050000, "1.05"}, {10000000, "10"}, {100000000, "100"}, {101010000, "101.01"},
		{12345678, "12.345678"}, {most, "1000000000000"}, {-most, "-1000000000000"}, {most + 1, "1000000000000.000001"},
		{math.MaxInt64, "9223372036854.775807"}, {math.MinInt64, "-9223372036854.775808"}, {math.MinInt64 + 8, "-9223372036854.7758"},
	} {
		if got := Show(c.in); got != c.want {
			t.Errorf("Show(%d) is %q, not %q", c.in, got, c.want)
		}
	}
	check := func(n int64) {
		if got, want := Show(n), slowShow(n); got != want {
			t.Fatalf("Show(%d) is %q, not %q", n, got, want)
		}
	}
	for _, n := range edges() {
		check(n)
	}
	for n := int64(-2100000); n < 2100000; n += 7 {
		check(n)
	}
	for n := int64(1); n > 0; n *= 3 { // till it turns round
		check(n)
		check(-n)
	}
}

func TestP3_3Fits(t *testing.T) {
	for _, c := range []struct {
		n, base, step int64
		want          bool
	}{
		{0, 0, 1, true}, {7, 1, 3, true}, {7, 1, 4, false}, {1, 7, 3, true}, {-5, 1, 3, true}, {-5, 1, 4, false}, {1, -5, 3, true}, {-5, -2, 3, true}, {-4, -2, 3, false},
		{5, 5, 100, true}, {5, 6, 100, false}, {105, 5, 100, true}, {-95, 5, 100, true}, {6, 5, 1, true}, {500000, 0, 1000000, false}, {1500000, 500000, 1000000, true},
		{0, 0, 0, false}, {1, 1, 0, false}, {6, 0, -3, false}, {0, 0, -1, false}, {0, 0, math.MinInt64, false}, {5, 5, math.MinInt64, false},
		{math.MinInt64, 0, 2, true}, {math.MinInt64, 1, 2, false}, {math.MaxInt64, 0, 2, false}, {math.MaxInt64, 0, math.MaxInt64, true},
		{math.MaxInt64, math.MinInt64, 1, true}, {math.MinInt64, math.MaxInt64, 1, true},
		{math.MaxInt64, math.MinInt64, 2, false}, {math.MinInt64, math.MaxInt64, 2, false}, // 2^64 - 1 apart
		{math.MaxInt64, math.MinInt64, 3, true}, {math.MinInt64, math.MaxInt64, 3, true}, {math.MaxInt64, math.MinInt64, 5, true}, {math.MaxInt64, math.MinInt64, 7, false},
		{math.MaxInt64 - 1, math.MinInt64, math.MaxInt64, true}, {math.MaxInt64, math.MinInt64, math.MaxInt64, false}, {math.MinInt64 + 1, math.MaxInt64, math.MaxInt64, true},
	} {
		if got := Fits(c.n, c.base, c.step); got != c.want {
			t.Errorf("Fits(%d, %d, %d) is not %v", c.n, c.base, c.step, c.want)
		}
	}
}

func TestP3_3Down(t *testing.T) {
	for _, c := range []struct {
		n, base, step, want int64
		ok                  bool
	}{
		{7, 1, 4, 5, true}, {5, 1, 4, 5, true}, {8, 1, 4, 5, true}, {9, 1, 4, 9, true}, {0, 0, 1, 0, true}, {0, 0, 5, 0, true}, {4, 0, 5, 0, true},
		{-1, 0, 3, -3, true}, {-3, 0, 3, -3, true}, {-4, 0, 3, -6, true}, {0, 1, 4, -3, true}, {-1, -2, 5, -2, true}, {-3, -2, 5, -7, true}, // below the base too
		{5, 5, 9, 5, true}, {4, 5, 9, -4, true}, {1700000, 500000, 1000000, 1500000, true},
		{1, 1, 0, 0, false}, {0, 0, 0, 0, false}, {7, 1, -4, 0, false}, {7, 1, -1, 0, false}, {7, 7, math.MinInt64, 0, false},
		{math.MinInt64, 0, 2, math.MinInt64, true}, {math.MinInt64, 1, 2, 0, false}, {math.MinInt64 + 1, 1, 2, math.MinInt64 + 1, true}, // the least number
		{math.MinInt64 + 6, math.MinInt64, 7, math.MinInt64, true}, {math.MinInt64 + 5, math.MinInt64 + 6, 7, 0, false}, {math.MinInt64 + 5, math.MinInt64 - 1 + 7, 6, math.MinInt64, true},
		{math.MinInt64, math.MaxInt64, 1, math.MinInt64, true}, {math.MinInt64, math.MaxInt64, math.MaxInt64, 0, false}, {math.MinInt64 + 1, math.MaxInt64, math.MaxInt64, math.MinInt64 + 1, true},
		{-2, math.MaxInt64, math.MaxInt64, -math.MaxInt64, true}, {math.MaxInt64, math.MinInt64, math.MaxInt64, math.MaxInt64 - 1, true}, {math.MaxInt64, 0, math.MaxInt64, math.MaxInt64, true},
		{math.MaxInt64 - 1, 0, math.MaxInt64, 0, true}, {math.MaxInt64, math.MinInt64, 1 << 62, 1 << 62, true},
	} {
		if got, ok := Down(c.n, c.base, c.step); got != c.want || ok != c.ok {
			t.Errorf("Down(%d, %d, %d) is %d and %v, not %d and %v", c.n, c.base, c.step, got, ok, c.want, c.ok)
		}
	}
}

func TestP3_3All(t *testing.T) {
	check := func(n, base, step int64) {
		down, ok := Down(n, base, step)
		fits := Fits(n, base, step)
		if step <= 0 {
			if down != 0 || ok || fits {
				t.Fatalf("Down and Fits of %d, %d, %d: %d, %v, %v", n, base, step, down, ok, fits)
			}
			return
		}
		want, wantOK, over := slowDown(n, base, step)
		if down != want || ok != wantOK {
			t.Fatalf("Down(%d, %d, %d) is %d and %v, not %d and %v", n, base, step, down, ok, want, wantOK)
		}
		if fits != (over.Sign() == 0) {
			t.Fatalf("Fits(%d, %d, %d) is %v", n, base, step, fits)
		}
	}
	for n := int64(-9); n <= 9; n++ {
		for base := int64(-9); base <= 9; base++ {
			for step := int64(-3); step <= 9; step++ {
				check(n, base, step)
			}
		}
	}
	all := edges()
	for _, n := range all {
		for _, base := range all {
			for _, step := range all {
				check(n, base, step)
			}
		}
	}
}

func TestP3_4(t *testing.T) {
	check := func(n int64) {
		got, e := Parse(Show(n))
		if -most <= n && n <= most {
			if got != n || e != api.OK {
				t.Fatalf("Parse(Show(%d)) is %d and %d", n, got, e)
			}
		} else if got != 0 || e != api.ErrRange {
			t.Fatalf("Parse(Show(%d)), which is beyond, is %d and %d", n, got, e)
		}
	}
	for _, n := range edges() {
		check(n)
	}
	for n := int64(-1100000); n < 1100000; n += 3 {
		check(n)
		check(most + n)
		check(n - most)
	}
	for n := int64(1); n > 0 && n < math.MaxInt64/3; n *= 3 {
		check(n)
		check(-n)
	}
}

// What is left is told for all kinds of whole numbers by one function, the narrow ones at their edges among them.
func TestLeft(t *testing.T) {
	for n := -128; n < 128; n++ {
		for by := 1; by < 128; by++ {
			want := ((n % by) + by) % by
			if got := left(int8(n), int8(by)); int(got) != want {
				t.Fatalf("left(%d, %d) is %d", n, by, got)
			}
			if got := left(uint8(n), uint8(by)); int(got) != (n+256)%256%by {
				t.Fatalf("left(%d, %d) is %d", uint8(n), by, got)
			}
		}
	}
}

// What is answered is new memory (rule R4), even for numbers whose digits strconv keeps.
func TestAnswersAreNew(t *testing.T) {
	var got string
	for _, n := range []int64{0, 7000000, 42000000, 123456789} {
		if testing.AllocsPerRun(10, func() { got = Show(n) }) < 1 {
			t.Errorf("Show(%d) answers memory that isn't its own: %s", n, strconv.Quote(got))
		}
	}
}
