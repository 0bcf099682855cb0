package days

import (
	"math"
	"math/big"
	"testing"
	"time"

	"counterfoil/api"
)

// The first and the last numbers of days, and of days of weeks: the last three days are of a week of the year behind the last.
const (
	firstOfAll   = int64(-719162)
	lastOfAll    = int64(100000109)
	lastOfWeeks  = int64(100000106)
	behindOfYear = api.MaxYear + 1
)

// noYears and noMonths are numbers that are none, up to where an int ends.
var (
	noYears  = []int{0, -1, -4, -400, -1970, behindOfYear, 275764, 276000, 1 << 31, -1 << 31, 1<<32 + 2000, math.MaxInt, math.MaxInt - 1, math.MinInt, math.MinInt + 1}
	noMonths = []int{0, -1, -2, -12, 13, 14, 24, 1 << 31, 1<<32 + 1, math.MaxInt, math.MinInt, math.MinInt + 1}
	noDays   = []int64{firstOfAll - 1, firstOfAll - 2, firstOfAll - 7, firstOfAll - 366, lastOfAll + 1, lastOfAll + 2, lastOfAll + 366, 1 << 40, -1 << 40, 1<<32 + 5, math.MaxInt64, math.MaxInt64 - 1, math.MinInt64, math.MinInt64 + 1}
)

// day is one as another calendar has it.
type day struct {
	n              int64
	y, m, d        int
	weekday        int
	weekYear, week int
}

// told is the day that the library's clock tells for a number.
func told(n int64) day {
	at := time.Unix(n*86400, 0).UTC()
	y, m, d := at.Date()
	weekday := int(at.Weekday())
	if weekday == 0 {
		weekday = 7
	}
	weekYear, week := at.ISOWeek()
	return day{n, y, int(m), d, weekday, weekYear, week}
}

// counted goes through all days one by one, by the chapter's words alone, and hands out those that wanted asks for.
func counted(wanted func(y, m, d int) bool, f func(at day)) {
	at := day{n: firstOfAll, weekday: 1}
	for at.y = 1; at.y <= api.MaxYear; at.y++ {
		long := [13]int{0, 31, 28, 31, 30, 31, 30, 31, 31, 30, 31, 30, 31}
		if at.y%400 == 0 || at.y%4 == 0 && at.y%100 != 0 {
			long[2] = 29
		}
		for at.m = 1; at.m <= 12; at.m++ {
			for at.d = 1; at.d <= long[at.m]; at.d++ {
				if wanted(at.y, at.m, at.d) {
					f(at)
				}
				at.n++
				at.weekday = at.weekday%7 + 1
			}
		}
	}
}

func TestP4_1Leap(t *testing.T) {
	for _, y := range []int{4, 8, 96, 104, 400, 1600, 1896, 1904, 1972, 1996, 2000, 2004, 2024, 2400, 275600, 275756, api.MaxYear} {
		if !Leap(y) {
			t.Error(y)
		}
	}
	for _, y := range []int{1, 2, 3, 5, 99, 100, 200, 300, 500, 1700, 1800, 1900, 1970, 1999, 2001, 2002, 2003, 2100, 2200, 2300, 275500, 275700, 275759} {
		if Leap(y) {
			t.Error(y)
		}
	}
	for _, y := range noYears {
		if Leap(y) {
			t.Error(y)
		}
	}
}

func TestP4_1Length(t *testing.T) {
	common := [12]int{31, 28, 31, 30, 31, 30, 31, 31, 30, 31, 30, 31}
	leap := [12]int{31, 29, 31, 30, 31, 30, 31, 31, 30, 31, 30, 31}
	for y, want := range map[int][12]int{1: common, 4: leap, 100: common, 400: leap, 1900: common, 1970: common, 2000: leap, 2023: common, 2024: leap, 275759: common, api.MaxYear: leap} {
		for i, long := range want {
			if got := Length(y, i+1); got != long {
				t.Error(y, i+1, got, long)
			}
		}
		for _, m := range noMonths {
			if got := Length(y, m); got != 0 {
				t.Error(y, m, got)
			}
		}
	}
	for _, y := range noYears {
		for m := range 14 {
			if got := Length(y, m); got != 0 {
				t.Error(y, m, got)
			}
		}
		for _, m := range noMonths {
			if got := Length(y, m); got != 0 {
				t.Error(y, m, got)
			}
		}
	}
}

func TestP4_2(t *testing.T) {
	for _, c := range []struct {
		y, m, d int
		n       int64
	}{
		{1970, 1, 1, 0}, {1970, 1, 2, 1}, {1970, 1, 31, 30}, {1970, 2, 1, 31}, {1970, 12, 31, 364}, {1971, 1, 1, 365},
		{1969, 12, 31, -1}, {1969, 1, 1, -365}, {1968, 12, 31, -366}, {1968, 2, 29, -672},
		{2000, 2, 28, 11015}, {2000, 2, 29, 11016}, {2000, 3, 1, 11017}, {1900, 2, 28, -25509}, {1900, 3, 1, -25508},
		{1, 1, 1, firstOfAll}, {1, 1, 2, firstOfAll + 1}, {1, 12, 31, firstOfAll + 364}, {2, 1, 1, firstOfAll + 365},
		{275760, 12, 31, lastOfAll}, {275760, 12, 30, lastOfAll - 1}, {275760, 9, 13, 100000000}, {275760, 1, 1, lastOfAll - 365},
	} {
		if n, e := Number(c.y, c.m, c.d); n != c.n || e != api.OK {
			t.Error(c, n, e)
		}
		if y, m, d, e := Date(c.n); y != c.y || m != c.m || d != c.d || e != api.OK {
			t.Error(c, y, m, d, e)
		}
	}
}

func TestP4_2NoNumber(t *testing.T) {
	none := func(y, m, d int) {
		t.Helper()
		if n, e := Number(y, m, d); n != 0 || e != api.ErrRange {
			t.Error(y, m, d, n, e)
		}
	}
	for _, y := range []int{1, 4, 1900, 1970, 2000, 2023, api.MaxYear} {
		for m := 1; m <= 12; m++ {
			long := time.Date(y, time.Month(m)+1, 0, 0, 0, 0, 0, time.UTC).Day()
			for _, d := range []int{0, -1, -long, long + 1, long + 2, 32, 1 << 31, 1<<32 + 1, math.MaxInt, math.MinInt} {
				none(y, m, d)
			}
			if _, e := Number(y, m, long); e != api.OK {
				t.Error(y, m, long, e)
			}
		}
		for _, m := range noMonths {
			for _, d := range []int{0, 1, 28, -1, math.MaxInt, math.MinInt} {
				none(y, m, d)
			}
		}
	}
	for _, y := range noYears {
		for _, m := range []int{0, 1, 2, 12, 13} {
			for _, d := range []int{0, 1, 28, -1, math.MaxInt, math.MinInt} {
				none(y, m, d)
			}
		}
	}
}

func TestP4_2NoDate(t *testing.T) {
	for _, n := range noDays {
		if y, m, d, e := Date(n); y != 0 || m != 0 || d != 0 || e != api.ErrRange {
			t.Error(n, y, m, d, e)
		}
	}
}

func TestP4_2Weekday(t *testing.T) {
	for n, want := range map[int64]int{0: 4, 1: 5, 2: 6, 3: 7, 4: 1, 7: 4, -1: 3, -2: 2, -3: 1, -4: 7, -7: 4, 20774: 2, firstOfAll: 1, lastOfAll: 3} {
		if got := Weekday(n); got != want {
			t.Error(n, got, want)
		}
	}
	ask := func(n int64) {
		want := new(big.Int).Add(big.NewInt(n), big.NewInt(3))
		want.Mod(want, big.NewInt(7)) // never below 0
		if got := Weekday(n); int64(got) != want.Int64()+1 {
			t.Error(n, got, want)
		}
	}
	for near := int64(-30); near <= 30; near++ {
		for _, n := range []int64{0, firstOfAll, lastOfAll, 1 << 31, -1 << 31, 1 << 32, 1 << 62, -1 << 62} {
			ask(n + near)
		}
	}
	for near := range int64(30) {
		ask(math.MaxInt64 - near)
		ask(math.MinInt64 + near)
	}
	for _, n := range noDays {
		ask(n)
	}
}

func TestP4_3Weeks(t *testing.T) {
	for y, want := range map[int]int{1: 52, 4: 53, 1969: 52, 1970: 53, 1971: 52, 1976: 53, 2000: 52, 2004: 53, 2009: 53, 2015: 53, 2020: 53, 2021: 52, 2026: 53, 275759: 52, api.MaxYear: 52} {
		if got := Weeks(y); got != want {
			t.Error(y, got, want)
		}
	}
	for _, y := range noYears {
		if got := Weeks(y); got != 0 {
			t.Error(y, got)
		}
	}
	for y := 1; y <= api.MaxYear; y++ {
		_, want := time.Date(y, 12, 28, 0, 0, 0, 0, time.UTC).ISOWeek() // December 28 is in the last week
		if got := Weeks(y); got != want {
			t.Fatal(y, got, want)
		}
	}
}

func TestP4_3Monday(t *testing.T) {
	for _, c := range []struct {
		y, w int
		n    int64
	}{
		{1, 1, firstOfAll}, {1, 2, firstOfAll + 7}, {1, 52, firstOfAll + 357}, {2, 1, firstOfAll + 364},
		{1970, 1, -3}, {1970, 2, 4}, {1970, 53, 361}, {1971, 1, 368}, {1969, 52, -10},
		{2020, 53, 18624}, {2021, 1, 18631}, {2021, 52, 18988}, {api.MaxYear, 52, lastOfWeeks - 6}, {api.MaxYear, 1, lastOfWeeks - 363},
	} {
		if n, e := Monday(c.y, c.w); n != c.n || e != api.OK {
			t.Error(c, n, e)
		}
	}
	none := func(y, w int) {
		if n, e := Monday(y, w); n != 0 || e != api.ErrRange {
			t.Error(y, w, n, e)
		}
	}
	for _, w := range []int{0, -1, -52, 54, 55, 100, 1 << 31, 1<<32 + 1, math.MaxInt, math.MinInt, math.MinInt + 1} {
		for _, y := range []int{1, 1970, 2020, 2021, api.MaxYear} {
			none(y, w)
		}
	}
	for _, y := range []int{1, 1969, 2019, 2021, 275759, api.MaxYear} {
		none(y, 53)
	}
	for _, y := range noYears {
		for _, w := range []int{0, 1, 52, 53, -1, math.MaxInt, math.MinInt} {
			none(y, w)
		}
	}
}

func TestP4_3Week(t *testing.T) {
	for _, c := range []struct {
		n    int64
		y, w int
	}{
		{0, 1970, 1}, {-3, 1970, 1}, {-4, 1969, 52}, {3, 1970, 1}, {4, 1970, 2},
		{18624, 2020, 53}, {18627, 2020, 53}, {18630, 2020, 53}, {18631, 2021, 1},
		{firstOfAll, 1, 1}, {firstOfAll + 6, 1, 1}, {firstOfAll + 7, 1, 2}, {firstOfAll + 363, 1, 52}, {firstOfAll + 364, 2, 1},
		{lastOfWeeks, api.MaxYear, 52}, {lastOfWeeks - 6, api.MaxYear, 52}, {lastOfWeeks - 7, api.MaxYear, 51},
	} {
		if y, w, e := Week(c.n); y != c.y || w != c.w || e != api.OK {
			t.Error(c, y, w, e)
		}
	}
	for _, n := range append([]int64{lastOfWeeks + 1, lastOfWeeks + 2, lastOfAll}, noDays...) {
		if y, w, e := Week(n); y != 0 || w != 0 || e != api.ErrRange {
			t.Error(n, y, w, e)
		}
	}
}

// ask holds all that is told of a day against another calendar, there and back.
func ask(t *testing.T, want day) {
	t.Helper()
	n, e := Number(want.y, want.m, want.d)
	if n != want.n || e != api.OK {
		t.Fatal(want, n, e)
	}
	y, m, d, e := Date(want.n)
	if y != want.y || m != want.m || d != want.d || e != api.OK {
		t.Fatal(want, y, m, d, e)
	}
	if got := Weekday(want.n); got != want.weekday {
		t.Fatal(want, got)
	}
	y, w, e := Week(want.n)
	if want.n > lastOfWeeks {
		if y != 0 || w != 0 || e != api.ErrRange {
			t.Fatal(want, y, w, e)
		}
		return
	}
	if y != want.weekYear || w != want.week || e != api.OK {
		t.Fatal(want, y, w, e)
	}
	monday, e := Monday(y, w)
	if monday != want.n-int64(want.weekday-1) || e != api.OK {
		t.Fatal(want, monday, e)
	}
}

// Whole cycles of the calendar at both ends and around day 0, and some days of each year between them.
func TestP4_4ByNumber(t *testing.T) {
	const cycle = 146097
	for near := range int64(cycle + 800) {
		ask(t, told(firstOfAll+near))
		ask(t, told(lastOfAll-near))
		ask(t, told(near-cycle/2))
	}
	for n := firstOfAll; n <= lastOfAll; n += 101 {
		ask(t, told(n))
	}
}

// The ends of all years' months, and both of February's, by a calendar that is counted.
func TestP4_4ByDay(t *testing.T) {
	edge := func(y, m, d int) bool { return (m == 12 || m < 4) && (d == 1 || d > 27) }
	last := day{}
	counted(edge, func(at day) {
		last = at
		at.weekYear, at.week = time.Date(at.y, time.Month(at.m), at.d, 0, 0, 0, 0, time.UTC).ISOWeek()
		ask(t, at)
	})
	if last.n != lastOfAll || last.y != api.MaxYear {
		t.Error(last)
	}
}

func TestP4_4Weeks(t *testing.T) {
	next := firstOfAll
	for y := 1; y <= api.MaxYear; y++ {
		for w := 1; w <= Weeks(y); w++ {
			n, e := Monday(y, w)
			if n != next || e != api.OK || Weekday(n) != 1 {
				t.Fatal(y, w, n, next, e)
			}
			next += 7
			if w > 2 && w < Weeks(y)-1 && y%50 != 0 {
				continue // the weeks at the year's ends are those at which something may turn
			}
			for _, in := range []int64{n, n + 6} {
				if gotY, gotW, e := Week(in); gotY != y || gotW != w || e != api.OK {
					t.Fatal(y, w, in, gotY, gotW, e)
				}
			}
		}
	}
	if next != lastOfWeeks+1 {
		t.Error(next)
	}
}
