package civil

import (
	"math"
	"testing"
	"time"

	"ossuary/api"
)

const (
	lastDay = 1 << 20 // up to which the chapter promises dates
	lastOf  = 35000   // the last month of which it promises a span
)

// same fails the test where got is not what the chapter says.
func same[T comparable](t *testing.T, what string, got, want T) {
	t.Helper()
	if got != want {
		t.Errorf("%s: %v, not %v", what, got, want)
	}
}

// date: year, month and day, to be compared at once.
type date struct {
	year       int64
	month, day int
}

func dateOf(day int64) date {
	year, month, of := Date(day)
	return date{year, month, of}
}

// next: the date behind d, by the words of the chapter alone.
func next(d date) date {
	lengths := []int{31, 28, 31, 30, 31, 30, 31, 31, 30, 31, 30, 31}
	most := lengths[d.month-1]
	leap := d.year%400 == 0 || d.year%4 == 0 && d.year%100 > 0
	if d.month == 2 && leap {
		most++
	}
	switch {
	case d.day < most:
		return date{d.year, d.month, d.day + 1}
	case d.month < 12:
		return date{d.year, d.month + 1, 1}
	}
	return date{d.year + 1, 1, 1}
}

// byLibrary: the date of a day as package time has it.
func byLibrary(day int64) date {
	year, month, of := time.Unix(86400*day, 0).UTC().Date()
	return date{int64(year), int(month), of}
}

// far: numbers at the ends of their type, and next to what the chapter bounds.
func far() []int64 {
	l := []int64{math.MinInt64, math.MinInt64 + 1, math.MaxInt64, math.MaxInt64 - 1, 0, 1, -1}
	for i := range 63 {
		p := int64(1) << i
		l = append(l, p, -p, p-1, p+1, 1-p, -1-p)
	}
	for _, n := range []int64{lastDay, lastOf, api.MaxHour, 24, 12, 400, 146097} {
		l = append(l, n-1, n, n+1, -n)
	}
	return l
}

// --- P401

func TestLeap(t *testing.T) {
	for year, want := range map[int64]bool{
		1970: false, 1971: false, 1972: true, 1973: false, 1976: true, 1996: true, 1999: false,
		2000: true, 2001: false, 2004: true, 2096: true, 2100: false, 2104: true, 2200: false, 2300: false,
		2400: true, 2500: false, 2800: true, 3000: false, 3200: true, 4000: true, 4400: true,
		4800: true, 4896: true, 4899: false, 4900: false,
	} {
		if Leap(year) != want {
			t.Errorf("Leap of %d: not %v", year, want)
		}
	}
}

func TestLeapOfEachYear(t *testing.T) {
	for year := int64(1970); year <= 4900; year++ {
		want := time.Date(int(year), 12, 31, 0, 0, 0, 0, time.UTC).YearDay() == 366
		if Leap(year) != want {
			t.Errorf("Leap of %d: not %v", year, want)
		}
	}
}

func TestLength(t *testing.T) {
	for _, year := range []int64{1970, 1999, 2100, 4900} {
		for i, want := range []int{0, 31, 28, 31, 30, 31, 30, 31, 31, 30, 31, 30, 31, 0} {
			same(t, "Length, of a common year", Length(year, i), want)
		}
	}
	for _, year := range []int64{1972, 2000, 2400, 4896} {
		for i, want := range []int{0, 31, 29, 31, 30, 31, 30, 31, 31, 30, 31, 30, 31, 0} {
			same(t, "Length, of a leap year", Length(year, i), want)
		}
	}
}

func TestLengthOfNoMonth(t *testing.T) {
	for _, month := range []int{0, -1, -2, -12, 13, 14, 24, 1 << 8, 1<<8 + 2, 1<<32 + 2, math.MinInt, math.MaxInt} {
		same(t, "Length, of a common year", Length(1970, month), 0)
		same(t, "Length, of a leap year", Length(2000, month), 0)
	}
}

func TestLengthOfEachMonth(t *testing.T) {
	for year := int64(1970); year <= 4900; year++ {
		for month := 1; month <= 12; month++ {
			want := time.Date(int(year), time.Month(month)+1, 0, 0, 0, 0, 0, time.UTC).Day()
			if Length(year, month) != want {
				t.Errorf("Length of %d, %d: not %d", year, month, want)
			}
		}
	}
}

func TestDate(t *testing.T) {
	for day, want := range map[int64]date{
		0: {1970, 1, 1}, 1: {1970, 1, 2}, 30: {1970, 1, 31}, 31: {1970, 2, 1}, 58: {1970, 2, 28}, 59: {1970, 3, 1},
		364: {1970, 12, 31}, 365: {1971, 1, 1}, 730: {1972, 1, 1}, 789: {1972, 2, 29}, 790: {1972, 3, 1}, 1095: {1972, 12, 31}, 1096: {1973, 1, 1},
		10956: {1999, 12, 31}, 10957: {2000, 1, 1}, 11015: {2000, 2, 28}, 11016: {2000, 2, 29}, 11017: {2000, 3, 1}, 11322: {2000, 12, 31}, 11323: {2001, 1, 1},
		47540: {2100, 2, 28}, 47541: {2100, 3, 1}, 146096: {2369, 12, 31}, 146097: {2370, 1, 1}, 157419: {2400, 12, 31}, 157420: {2401, 1, 1},
		lastDay: {4840, 11, 26},
	} {
		same(t, "Date", dateOf(day), want)
	}
}

func TestDateOfEachDay(t *testing.T) {
	want := date{1970, 1, 1}
	for day := int64(0); day <= lastDay; day++ {
		if got := dateOf(day); got != want || got != byLibrary(day) {
			t.Fatalf("Date of %d: %v, not %v", day, got, want)
		}
		want = next(want)
	}
}

func TestNumber(t *testing.T) {
	for _, c := range []struct {
		date date
		want int64
	}{
		{date{1970, 1, 1}, 0}, {date{1970, 1, 31}, 30}, {date{1970, 2, 1}, 31}, {date{1970, 3, 1}, 59}, {date{1970, 12, 31}, 364},
		{date{1972, 2, 29}, 789}, {date{2000, 2, 29}, 11016}, {date{2100, 2, 28}, 47540}, {date{2100, 3, 1}, 47541},
		{date{2400, 12, 31}, 157419}, {date{2401, 1, 1}, 157420},
		{date{4900, 1, 1}, 1070161}, {date{4900, 2, 28}, 1070219}, {date{4900, 12, 31}, 1070525},
	} {
		got, ok := Number(c.date.year, c.date.month, c.date.day)
		same(t, "Number", got, c.want)
		same(t, "Number: is there one", ok, true)
		same(t, "Number by the library", time.Date(int(c.date.year), time.Month(c.date.month), c.date.day, 0, 0, 0, 0, time.UTC).Unix()/86400, c.want)
	}
}

func TestNumberOfEachDate(t *testing.T) {
	d, day := date{1970, 1, 1}, int64(0)
	for d.year <= 4900 {
		if got, ok := Number(d.year, d.month, d.day); !ok || got != day {
			t.Fatalf("Number of %v: %d, %v, not %d", d, got, ok, day)
		}
		d, day = next(d), day+1
	}
}

func TestNumberOfNoDate(t *testing.T) {
	for _, d := range []date{
		{1969, 12, 31}, {1969, 1, 1}, {1968, 2, 29}, {1600, 1, 1}, {0, 1, 1}, {-1970, 1, 1}, {math.MinInt64, 1, 1}, {math.MinInt64, 2, 29},
		{4901, 1, 1}, {4901, 12, 31}, {4904, 2, 29}, {1 << 32, 2, 1}, {1<<32 + 1970, 1, 1}, {math.MaxInt64, 12, 31},
		{1970, 0, 1}, {1970, 13, 1}, {1970, -1, 1}, {1970, 24, 1}, {1970, 1<<32 + 1, 1}, {1970, math.MinInt, 1}, {1970, math.MaxInt, 1},
		{1970, 1, 0}, {1970, 1, -1}, {1970, 1, 32}, {1970, 1, math.MinInt}, {1970, 1, math.MaxInt}, {1970, 1, 1<<32 + 1}, {1970, 0, 0}, {1970, 13, 0},
		{1970, 2, 29}, {1972, 2, 30}, {2000, 2, 30}, {2100, 2, 29}, {4900, 2, 29}, {1970, 4, 31}, {1970, 12, 32}, {4900, 12, 32}, {4900, 13, 1},
	} {
		got, ok := Number(d.year, d.month, d.day)
		same(t, "Number", got, 0)
		same(t, "Number: is there one", ok, false)
	}
}

func TestNumberNextToEachMonthsEnds(t *testing.T) {
	for year := int64(1970); year <= 4900; year++ {
		for month := 1; month <= 12; month++ {
			most := Length(year, month)
			for day, want := range map[int]bool{0: false, 1: true, most: true, most + 1: false} {
				n, ok := Number(year, month, day)
				if ok != want || !want && n != 0 {
					t.Errorf("Number of %d, %d, %d: %d, %v", year, month, day, n, ok)
				}
			}
		}
	}
}

// --- P402

func TestMonthOf(t *testing.T) {
	for day, want := range map[int64]int64{
		0: 0, 30: 0, 31: 1, 58: 1, 59: 2, 364: 11, 365: 12, 789: 25, 790: 26, 1095: 35, 1096: 36,
		11016: 361, 11017: 362, 11322: 371, 11323: 372, 47540: 1561, 47541: 1562, 157419: 5171, 157420: 5172,
	} {
		same(t, "MonthOf", MonthOf(day), want)
	}
}

func TestMonthOfEachDay(t *testing.T) {
	d, month := date{1970, 1, 1}, int64(0)
	for day := int64(0); day <= lastDay; day++ {
		if got := MonthOf(day); got != month {
			t.Fatalf("MonthOf %d: %d, not %d", day, got, month)
		}
		if d = next(d); d.day == 1 {
			month++
		}
	}
}

func TestSpan(t *testing.T) {
	for month, want := range map[int64][2]int64{
		0: {0, 31}, 1: {31, 59}, 2: {59, 90}, 11: {334, 365}, 12: {365, 396}, 24: {730, 761}, 25: {761, 790}, 26: {790, 821},
		361: {10988, 11017}, 371: {11292, 11323}, 372: {11323, 11354}, 1561: {47513, 47541}, 5171: {157389, 157420},
	} {
		first, below := Span(month)
		same(t, "Span", [2]int64{first, below}, want)
	}
}

func TestSpanOfEachMonth(t *testing.T) {
	at := int64(0)
	for month := int64(0); month <= lastOf; month++ {
		first, below := Span(month)
		if first != at || below != at+int64(Length(1970+month/12, int(month%12)+1)) {
			t.Fatalf("Span of %d: %d and %d, from %d on", month, first, below, at)
		}
		if want := time.Date(1970, time.Month(month+1), 1, 0, 0, 0, 0, time.UTC).Unix() / 86400; first != want {
			t.Fatalf("Span of %d: %d, not %d", month, first, want)
		}
		at = below
	}
}

func TestDayOf(t *testing.T) {
	for hour, want := range map[int64]int64{
		0: 0, 1: 0, 23: 0, 24: 1, 47: 1, 48: 2, 24*59 - 1: 58, 24 * 59: 59, api.MaxHour - 1: 699050, api.MaxHour: 699050,
		24 * 699050: 699050, 24*699050 - 1: 699049,
	} {
		same(t, "DayOf", DayOf(hour), want)
	}
}

func TestDayOfEachHour(t *testing.T) {
	day, of := int64(0), 0
	for hour := int64(0); hour <= api.MaxHour; hour++ {
		if got := DayOf(hour); got != day {
			t.Fatalf("DayOf %d: %d, not %d", hour, got, day)
		}
		if of++; of == 24 {
			day, of = day+1, 0
		}
	}
}

// --- whatever it is given

// Of what lies farther away the chapter promises an end alone. There it is the same calendar, ahead of day 0 as well, as far as numbers go.
func TestFarNumbersEnd(t *testing.T) {
	for _, n := range far() {
		Leap(n)
		Length(n, 2)
		Length(1970, int(n))
		Number(n, 1, 1)
		Number(1970, int(n), 1)
		Number(1970, 1, int(n))
		if d := dateOf(n); d.month < 1 || d.month > 12 || d.day < 1 || d.day > Length(d.year, d.month) {
			t.Errorf("Date of %d: %v", n, d)
		}
		if n > -1<<32 && n < 1<<32 {
			same(t, "Date, by the library", dateOf(n), byLibrary(n))
		}
		if first, below := Span(MonthOf(n)); (first != 0 || below != 0) && (first > n || below <= n) {
			t.Errorf("Span of the month of %d: %d and %d", n, first, below)
		}
		if first, below := Span(n); first != 0 && (MonthOf(first) != n || MonthOf(below-1) != n) {
			t.Errorf("Span of %d: %d and %d", n, first, below)
		}
		if day := DayOf(n); day > 0 && (24*day > n || n-24*day > 23) {
			t.Errorf("DayOf %d: %d", n, day)
		}
		if s := Text(n); (len(s) == 13) != (n >= 0 && n <= api.MaxHour) {
			t.Errorf("Text of %d: %s", n, s)
		}
	}
}

// --- P404

func TestDatesFollowOneAnother(t *testing.T) {
	for day := int64(0); day < lastDay; day++ {
		here, there := dateOf(day), dateOf(day+1)
		if there != next(here) {
			t.Fatalf("Date of %d: %v behind %v", day+1, there, here)
		}
		n, ok := Number(here.year, here.month, here.day)
		if !ok || n != day {
			t.Fatalf("Number of %v: %d, %v, not %d", here, n, ok, day)
		}
	}
}

func TestMonthsPartTheDays(t *testing.T) {
	for day := int64(0); day <= lastDay; day++ {
		month := MonthOf(day)
		first, below := Span(month)
		if day < first || day >= below {
			t.Fatalf("Span of %d: %d and %d, without %d", month, first, below, day)
		}
		d := dateOf(day)
		if month != 12*(d.year-1970)+int64(d.month)-1 || day != first+int64(d.day)-1 {
			t.Fatalf("MonthOf %d: %d, of %v", day, month, d)
		}
	}
}
