package moment

import (
	"fmt"
	"math"
	"math/big"
	"regexp"
	"strings"
	"testing"
	"time"

	"counterfoil/api"
)

const (
	dayLong  = int64(86400000)
	firstDay = int64(-719162)   // January 1 of the year 1, a Monday
	lastDay  = int64(100000109) // December 31 of the year 275760
	lastWeek = int64(100000100) // the Monday of the last week of the year 275760
)

var (
	kinds   = []int{api.Date, api.Month, api.Week, api.Time, api.Local}
	noKinds = []int{0, -1, -5, 6, 7, 8, 35, 1 << 31, 1<<32 + 1, -1 << 31, math.MaxInt, math.MinInt, math.MinInt + 1}
)

// shapes is the chapter's table, once more, by expressions.
var shapes = map[int]*regexp.Regexp{
	api.Date:  regexp.MustCompile(`^([0-9]{4,})-([0-9]{2})-([0-9]{2})$`),
	api.Month: regexp.MustCompile(`^([0-9]{4,})-([0-9]{2})$`),
	api.Week:  regexp.MustCompile(`^([0-9]{4,})-W([0-9]{2})$`),
	api.Time:  regexp.MustCompile(`^([01][0-9]|2[0-3]):([0-5][0-9])(?::([0-5][0-9])(?:\.([0-9]{1,3}))?)?$`),
}

// whole is the number that digits tell; all that is beyond a year is one number.
func whole(digits string) int {
	n, ok := new(big.Int).SetString("0"+digits, 10)
	if !ok || n.Cmp(big.NewInt(1000000)) > 0 {
		return 1000000
	}
	return int(n.Int64())
}

// slowParse reads by the expressions, and has the days from the library's calendar.
func slowParse(kind int, s string) (int64, bool) {
	if kind == api.Local {
		at := strings.IndexAny(s, "T ")
		if at < 0 {
			return 0, false
		}
		date, ok := slowParse(api.Date, s[:at])
		clock, fine := slowParse(api.Time, s[at+1:])
		if !ok || !fine {
			return 0, false
		}
		return date + clock, true
	}
	found := shapes[kind].FindStringSubmatch(s)
	if found == nil {
		return 0, false
	}
	if kind == api.Time {
		clock, err := time.ParseDuration(found[1] + "h" + found[2] + "m" + "0" + found[3] + "." + found[4] + "0s")
		return clock.Milliseconds(), err == nil
	}
	y, n := whole(found[1]), whole(found[2])
	if y < 1 || y > api.MaxYear {
		return 0, false
	}
	switch kind {
	case api.Date:
		d := whole(found[3])
		at := time.Date(y, time.Month(n), d, 0, 0, 0, 0, time.UTC)
		return at.UnixMilli(), at.Year() == y && at.Month() == time.Month(n) && at.Day() == d
	case api.Month:
		return int64((y-1970)*12 + n - 1), n >= 1 && n <= 12
	}
	// January 4 is always in the first week.
	at := time.Date(y, 1, 4+7*(n-1), 0, 0, 0, 0, time.UTC)
	at = at.AddDate(0, 0, -(int(at.Weekday())+6)%7)
	year, week := at.ISOWeek()
	return at.UnixMilli(), year == y && week == n
}

// slowShow tells what the library's calendar says, laid out by its own way of printing.
func slowShow(kind int, n int64) string {
	at := time.UnixMilli(n).UTC()
	clock := at.Format("15:04:05.999")
	if at.Second() == 0 && n%1000 == 0 {
		clock = at.Format("15:04")
	}
	date := fmt.Sprintf("%04d-%02d-%02d", at.Year(), at.Month(), at.Day())
	switch kind {
	case api.Date:
		return date
	case api.Month:
		years := int(math.Floor(float64(n) / 12))
		return fmt.Sprintf("%04d-%02d", 1970+years, int(n)-12*years+1)
	case api.Week:
		y, w := at.ISOWeek()
		return fmt.Sprintf("%04d-W%02d", y, w)
	case api.Time:
		return clock
	}
	return date + "T" + clock
}

// against holds Parse of all kinds against the slow way.
func against(t *testing.T, s string) {
	t.Helper()
	for _, kind := range kinds {
		want, ok := slowParse(kind, s)
		e := api.OK
		if !ok {
			want, e = 0, api.ErrForm
		}
		if n, f := Parse(kind, s); n != want || f != e {
			t.Errorf("Parse(%d, %q) is %d, %d, not %d, %d", kind, s, n, f, want, e)
		}
	}
}

// both holds Show against the slow way, and P5.3.
func both(t *testing.T, kind int, n int64) {
	t.Helper()
	want := slowShow(kind, n)
	s, e := Show(kind, n)
	if s != want || e != api.OK {
		t.Errorf("Show(%d, %d) is %q, %d, not %q", kind, n, s, e, want)
	}
	if back, f := Parse(kind, s); back != n || f != api.OK {
		t.Errorf("Parse(%d, %q) is %d, %d, not %d", kind, s, back, f, n)
	}
}

func TestP5_1(t *testing.T) {
	for _, c := range []struct {
		kind int
		s    string
		n    int64
	}{
		{api.Date, "1970-01-01", 0}, {api.Date, "1970-01-02", dayLong}, {api.Date, "1969-12-31", -dayLong}, {api.Date, "2000-02-29", 11016 * dayLong},
		{api.Date, "0001-01-01", firstDay * dayLong}, {api.Date, "275760-12-31", lastDay * dayLong}, {api.Date, "00000000000000000000000000001970-01-02", dayLong},
		{api.Date, "002000-02-29", 11016 * dayLong}, {api.Date, "10000-01-01", 2932897 * dayLong},
		{api.Month, "1970-01", 0}, {api.Month, "1970-12", 11}, {api.Month, "1971-01", 12}, {api.Month, "1969-12", -1}, {api.Month, "0001-01", -23628}, {api.Month, "275760-12", 3285491}, {api.Month, "001970-02", 1},
		{api.Week, "1970-W01", -259200000}, {api.Week, "1970-W02", 345600000}, {api.Week, "2020-W53", 18624 * dayLong}, {api.Week, "2021-W01", 18631 * dayLong}, {api.Week, "0001-W01", firstDay * dayLong}, {api.Week, "275760-W52", lastWeek * dayLong}, {api.Week, "01970-W01", -259200000},
		{api.Time, "00:00", 0}, {api.Time, "00:01", 60000}, {api.Time, "01:00", 3600000}, {api.Time, "23:59", 86340000}, {api.Time, "00:00:00", 0}, {api.Time, "00:00:59", 59000}, {api.Time, "23:59:59", 86399000}, {api.Time, "23:59:59.999", 86399999},
		{api.Time, "00:00:00.0", 0}, {api.Time, "00:00:00.1", 100}, {api.Time, "00:00:00.01", 10}, {api.Time, "00:00:00.001", 1}, {api.Time, "00:00:00.10", 100}, {api.Time, "00:00:00.100", 100}, {api.Time, "01:01:01.5", 3661500}, {api.Time, "20:08:09.080", 72489080},
		{api.Local, "2000-01-01 00:00", 946684800000}, {api.Local, "2000-01-01T00:00", 946684800000}, {api.Local, "1969-12-31T23:59:59.999", -1}, {api.Local, "1970-01-01T00:00:00.001", 1},
		{api.Local, "0001-01-01T00:00", firstDay * dayLong}, {api.Local, "275760-12-31 23:59:59.999", lastDay*dayLong + 86399999},
	} {
		if n, e := Parse(c.kind, c.s); n != c.n || e != api.OK {
			t.Error(c, n, e)
		}
	}
}

func TestP5_1Kind(t *testing.T) {
	for _, kind := range noKinds {
		for _, s := range []string{"", "x", "1970-01-02", "1970-02", "1970-W01", "10:00", "1970-01-02T10:00"} {
			if n, e := Parse(kind, s); n != 0 || e != api.ErrKind {
				t.Error(kind, s, n, e)
			}
		}
	}
}

func TestP5_1Form(t *testing.T) {
	long := strings.Repeat("9", 5000)
	wrong := map[int][]string{
		api.Date: {"", "-", "--", "2021", "2021-", "2021-01", "2021-01-", "2021-01-1", "2021-1-01", "2021-001-01", "2021-01-001", "2021-01-01 ", " 2021-01-01", "2021-01-01T", "2021-01-01T00:00", "2021/01/01", "2021-01/01", "20210101",
			"2021-02-29", "2020-02-30", "1900-02-29", "2021-04-31", "2021-00-01", "2021-13-01", "2021-01-00", "2021-01-32", "0000-01-01", "000-01-01", "999-01-01", "1-01-01", "-2021-01-01", "+2021-01-01", "275761-01-01", "999999-01-01",
			"18446744073709553586-01-01", "9223372036854775808-01-01", "9223372036854775807-01-01", long + "-01-01", "2021-+1-01", "2021-01-+1", "2021-0x-01", "2_21-01-01", "20٢1-01-01", "2021-01-01\x00", "2021-01-01\n", "2021-W01"},
		api.Month: {"", "2021", "2021-", "2021-1", "2021-00", "2021-13", "2021-99", "2021-001", "2021-01-", "2021-01-01", "999-01", "0000-01", "275761-01", "99999999999999999999-01", long + "-01", "2021-W01", "2021-01 ", " 2021-01", "-2021-01"},
		api.Week:  {"", "2021-W", "2021-W0", "2021-W1", "2021-W00", "2021-W53", "2020-W54", "2021-W99", "2021-w01", "2021W01", "2021-01", "2021-W001", "2021-W01-1", "2021-W01 ", "0000-W01", "0000-W52", "275761-W01", "275760-W53", "999-W01", "2021--W01", "2021-WW01", long + "-W01"},
		api.Time:  {"", ":", "00", "00:", "00:0", "0:00", "1:00", "000:00", "00:000", "24:00", "23:60", "99:99", "10:00:", "10:00:0", "10:00:60", "10:00:000", "10:00:00.", "10:00:00.1234", "10:00:00.0000", "10:00:00,5", "10:00.5", "10:00:.5", "10:00:00.5.5", "10:00:00:00", "10:00:00.x", "10:00:00.5x", "10-00", "10:00 ", " 10:00", "-1:00", "+1:00", "10:00Z", "10.00", "T10:00"},
		api.Local: {"", "T", " ", "2021-01-01", "2021-01-01T", "2021-01-01 ", "T10:00", "10:00", "2021-01-01t00:00", "2021-01-01T10:00Z", "2021-01-01T24:00", "2021-02-29T10:00", "2021-01-01  10:00", "2021-01-01T 10:00", "2021-01-01TT10:00", "2021-01-01\t10:00", "2021-01-0110:00", "2021-01-01_10:00", "2021-01-01\u00a010:00", "2021-01-01T10:00:00.", "2021-01T10:00", "2021-W01T10:00", "275761-01-01T00:00", "0000-12-31T00:00", " 2021-01-01T10:00", "2021-01-01T10:00 "},
	}
	for kind, all := range wrong {
		for _, s := range all {
			if n, e := Parse(kind, s); n != 0 || e != api.ErrForm {
				t.Error(kind, s, n, e)
			}
		}
	}
}

// TestP5_1Near goes through all texts that are one byte away from a text of a kind: one more, one less, another.
func TestP5_1Near(t *testing.T) {
	for _, s := range []string{"2020-02-29", "0001-01-01", "275760-12-31", "1999-10-30", "275760-12", "2020-09", "2020-W53", "0001-W01", "275760-W52", "23:59", "19:08:59", "09:10:11.120", "20:00:00.1", "2020-02-29T23:59:59.999", "275760-12-31 00:00", "1970-01-01T00:00:00"} {
		against(t, s)
		for at := range len(s) + 1 {
			if at < len(s) {
				against(t, s[:at]+s[at+1:])
			}
			for b := range 256 {
				against(t, s[:at]+string([]byte{byte(b)})+s[at:])
				if at < len(s) {
					against(t, s[:at]+string([]byte{byte(b)})+s[at+1:])
				}
			}
		}
	}
}

// TestP5_1All goes through all texts of up to five pieces.
func TestP5_1All(t *testing.T) {
	pieces := []string{"2020", "-", "W", "02", "29", ":", "T", " ", ".", "5", "23", "00", "2020-02-29", "10:59:00"}
	var each func(s string, deep int)
	each = func(s string, deep int) {
		against(t, s)
		for _, p := range pieces {
			if deep > 0 {
				each(s+p, deep-1)
			}
		}
	}
	each("", 5)
}

// TestP5_1Numbers goes through all twos of digits at each place that has two.
func TestP5_1Numbers(t *testing.T) {
	for _, y := range []string{"0000", "0001", "0004", "0100", "1900", "1970", "2000", "2020", "2021", "2026", "9999", "10000", "099999", "275759", "275760", "275761", "0275760", "1000000"} {
		for a := range 100 {
			two := fmt.Sprintf("%02d", a)
			against(t, y+"-"+two)
			against(t, y+"-W"+two)
			for b := range 100 {
				against(t, y+"-"+two+"-"+fmt.Sprintf("%02d", b))
			}
		}
	}
	for a := range 100 {
		for b := range 100 {
			against(t, fmt.Sprintf("%02d:%02d", a, b))
			against(t, fmt.Sprintf("%02d:%02d:00", a, b))
			against(t, fmt.Sprintf("00:%02d:%02d", a, b))
			against(t, fmt.Sprintf("2020-02-29 %02d:59:%02d.%02d", a, b, a))
		}
	}
	for n := range 1000 {
		against(t, fmt.Sprintf("12:34:56.%03d", n))
		against(t, fmt.Sprintf("12:34:56.%d", n))
	}
}

func TestP5_2(t *testing.T) {
	for _, c := range []struct {
		kind int
		n    int64
		s    string
	}{
		{api.Date, 0, "1970-01-01"}, {api.Date, -dayLong, "1969-12-31"}, {api.Date, firstDay * dayLong, "0001-01-01"}, {api.Date, lastDay * dayLong, "275760-12-31"}, {api.Date, 2932896 * dayLong, "9999-12-31"}, {api.Date, 2932897 * dayLong, "10000-01-01"},
		{api.Month, 0, "1970-01"}, {api.Month, -1, "1969-12"}, {api.Month, 11, "1970-12"}, {api.Month, -12, "1969-01"}, {api.Month, -13, "1968-12"}, {api.Month, -23628, "0001-01"}, {api.Month, 3285491, "275760-12"},
		{api.Week, -259200000, "1970-W01"}, {api.Week, 18624 * dayLong, "2020-W53"}, {api.Week, firstDay * dayLong, "0001-W01"}, {api.Week, lastWeek * dayLong, "275760-W52"},
		{api.Time, 0, "00:00"}, {api.Time, 1, "00:00:00.001"}, {api.Time, 10, "00:00:00.01"}, {api.Time, 100, "00:00:00.1"}, {api.Time, 1000, "00:00:01"}, {api.Time, 60000, "00:01"}, {api.Time, 60500, "00:01:00.5"}, {api.Time, 3600000, "01:00"}, {api.Time, 3661500, "01:01:01.5"}, {api.Time, 36000000, "10:00"}, {api.Time, 86399999, "23:59:59.999"}, {api.Time, 10020, "00:00:10.02"},
		{api.Local, 946684800000, "2000-01-01T00:00"}, {api.Local, -1, "1969-12-31T23:59:59.999"}, {api.Local, -dayLong, "1969-12-31T00:00"}, {api.Local, firstDay * dayLong, "0001-01-01T00:00"}, {api.Local, lastDay*dayLong + 86399999, "275760-12-31T23:59:59.999"}, {api.Local, 10000, "1970-01-01T00:00:10"},
	} {
		if s, e := Show(c.kind, c.n); s != c.s || e != api.OK {
			t.Error(c, s, e)
		}
	}
}

func TestP5_2Kind(t *testing.T) {
	for _, kind := range noKinds {
		for _, n := range []int64{0, 1, -1, dayLong, math.MaxInt64, math.MinInt64} {
			if s, e := Show(kind, n); s != "" || e != api.ErrKind {
				t.Error(kind, n, s, e)
			}
		}
	}
}

func TestP5_2Range(t *testing.T) {
	wrong := map[int][]int64{
		api.Date:  {1, -1, dayLong - 1, dayLong + 1, -dayLong + 1, 1 - dayLong, firstDay*dayLong - dayLong, firstDay*dayLong - 1, lastDay*dayLong + 1, (lastDay + 1) * dayLong},
		api.Month: {-23629, -23640, 3285492, 3285503, 1 << 40, -1 << 40},
		api.Week:  {0, dayLong, -dayLong, -259200000 + 1, -259200000 - 1, -259200000 + dayLong, (firstDay - 7) * dayLong, (lastWeek + 1) * dayLong, (lastWeek + 7) * dayLong, (lastWeek + 14) * dayLong, lastDay * dayLong},
		api.Time:  {-1, -dayLong, dayLong, dayLong + 1, 1 << 40},
		api.Local: {firstDay*dayLong - 1, (firstDay - 1) * dayLong, (lastDay + 1) * dayLong, (lastDay+1)*dayLong + 1},
	}
	for kind, all := range wrong {
		for _, n := range append(all, math.MaxInt64, math.MaxInt64-1, math.MinInt64, math.MinInt64+1, math.MaxInt64/dayLong*dayLong, math.MinInt64/dayLong*dayLong, math.MaxInt64/12*12, math.MinInt64/12*12) {
			if s, e := Show(kind, n); s != "" || e != api.ErrRange {
				t.Error(kind, n, s, e)
			}
		}
	}
	// Of a week's days the Monday alone has a text.
	for n := int64(-700); n < 700; n++ {
		_, e := Show(api.Week, n*dayLong)
		if monday := time.UnixMilli(n*dayLong).UTC().Weekday() == time.Monday; monday != (e == api.OK) {
			t.Error(n, e)
		}
	}
}

func TestP5_3Days(t *testing.T) {
	ask := func(n int64) {
		both(t, api.Date, n*dayLong)
		both(t, api.Local, n*dayLong+(n%dayLong+dayLong)*7919%dayLong)
		monday := n - (n%7+7+3)%7
		if monday >= firstDay && monday <= lastWeek {
			both(t, api.Week, monday*dayLong)
		}
	}
	for n := int64(-150000); n <= 150000; n++ {
		ask(n)
	}
	for n := range int64(1000) {
		ask(firstDay + n)
		ask(lastDay - n)
	}
	for n := firstDay; n <= lastDay; n += 997 {
		ask(n)
	}
}

func TestP5_3Months(t *testing.T) {
	for n := int64(-23628); n <= 3285491; n += 5 {
		both(t, api.Month, n)
	}
	for n := int64(-30); n <= 30; n++ {
		both(t, api.Month, n)
		both(t, api.Month, 3285461+n)
		both(t, api.Month, -23598+n)
	}
}

func TestP5_3Times(t *testing.T) {
	for n := range int64(120000) {
		both(t, api.Time, n)
		both(t, api.Time, dayLong-1-n)
	}
	for n := int64(0); n < dayLong; n += 1000 {
		both(t, api.Time, n)
		both(t, api.Time, n+n/1000%1000)
		both(t, api.Local, n-dayLong/2)
	}
}

// TestAnswersAreNew: each text that is told is made anew (R4).
func TestAnswersAreNew(t *testing.T) {
	for _, kind := range kinds {
		n := int64(-259200000)
		if kind == api.Month || kind == api.Time {
			n = 0
		}
		if made := testing.AllocsPerRun(10, func() { Show(kind, n) }); made < 1 {
			t.Error(kind, made)
		}
	}
}
