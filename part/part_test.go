package part

import (
	"math"
	"slices"
	"strconv"
	"testing"
	"time"

	"ossuary/api"
)

const (
	least    = math.MinInt64
	greatest = math.MaxInt64

	lastHour  = 16777216 // MaxHour: December 8 of 3883, 16 o'clock
	lastDay   = 699050
	lastMonth = 22967
)

// same fails the test where got is not what the chapter says.
func same[T comparable](t *testing.T, what string, got, want T) {
	t.Helper()
	if got != want {
		t.Errorf("%s: %v, not %v", what, got, want)
	}
}

func hourPart(i int64) api.Part  { return api.Part{Tier: 1, Index: i} }
func dayPart(i int64) api.Part   { return api.Part{Tier: 2, Index: i} }
func monthPart(i int64) api.Part { return api.Part{Tier: 3, Index: i} }

func name(p api.Part) string {
	return "tier " + strconv.Itoa(p.Tier) + ", " + strconv.FormatInt(p.Index, 10)
}

func hourName(hour int64) string {
	return "hour " + strconv.FormatInt(hour, 10)
}

// lasts: of each tier the greatest Index that is right.
func lasts() [4]int64 {
	return [4]int64{1: lastHour, 2: lastDay, 3: lastMonth}
}

// noTiers: numbers of no tier, some of which are one once they are cut to fewer bits.
func noTiers() []int {
	return []int{0, 4, 5, 6, 7, 8, 9, 100, -1, -2, -3, -4, 255, 257, 258, 259, -255, 1<<16 + 1, 1<<16 + 3, 1<<31 - 1, 1 << 31, 1<<32 + 1, 1<<32 + 2, 1<<32 + 3, -1<<32 + 2, math.MinInt, math.MinInt + 1, math.MinInt + 2, math.MinInt + 3, math.MaxInt - 1, math.MaxInt}
}

// hourOf: the hour with which a day begins, by the library.
func hourOf(year int, month time.Month, day int) int64 {
	return time.Date(year, month, day, 0, 0, 0, 0, time.UTC).Unix() / 3600
}

// rightAs: whether a partition is right, by the chapter's words.
func rightAs(p api.Part) bool {
	return p.Tier >= 1 && p.Tier <= 3 && p.Index >= 0 && p.Index <= lasts()[p.Tier]
}

// spanAs: a partition's span, by the chapter's words and the library's calendar.
func spanAs(p api.Part) (int64, int64) {
	switch {
	case !rightAs(p):
		return 0, 0
	case p.Tier == 1:
		return p.Index, p.Index + 1
	case p.Tier == 2:
		return p.Index * 24, p.Index*24 + 24
	}
	return hourOf(1970, time.Month(1+p.Index), 1), hourOf(1970, time.Month(2+p.Index), 1)
}

// ofAs: the partition of a tier that has an hour, likewise.
func ofAs(tier int, hour int64) (api.Part, bool) {
	if hour < 0 || hour > lastHour || tier < 1 || tier > 3 {
		return api.Part{}, false
	}
	date := time.Unix(hour*3600, 0).UTC()
	month := int64(date.Year()-1970)*12 + int64(date.Month()) - 1
	return api.Part{Tier: tier, Index: [4]int64{1: hour, 2: hour / 24, 3: month}[tier]}, true
}

// indexes: at the ends of what is right of some tier, of other things' ranges, and such as are right once they are cut to fewer bits.
func indexes() []int64 {
	l := []int64{least, least + 1, least + 2, -1 << 62, -1<<32 + 1, -1 << 32, -1 << 31, -lastHour, -lastDay, -lastMonth, -24, -3, -2, -1, 0, 1, 2, 3, 11, 12, 23, 24, 25, 31, 1 << 31, 1<<31 - 1, 1 << 32, 1<<32 + 1, 1<<32 + lastMonth, 1 << 40, 1<<58 - 1, 1 << 58, 1<<58 + 1, 1 << 59, 1 << 60, 1 << 62, greatest/24 - 1, greatest / 24, greatest/24 + 1, greatest - 1, greatest}
	for _, last := range lasts() {
		l = append(l, last-2, last-1, last, last+1, last+2)
	}
	return l
}

// hours: at the ends of days, months, years, of February in leap years and in others, at the ends of what is right, and far away.
func hours() []int64 {
	l := []int64{least, least + 1, -1 << 32, -745, -744, -25, -24, -23, -2, greatest - 1, greatest, 1 << 32, 1<<32 + 1, 1 << 40, lastHour + 2, lastHour + 24, lastHour + 745}
	marks := []int64{0, 24, 48, 720, 744, lastHour, lastDay * 24, lastDay*24 + 24}
	for _, year := range []int{1970, 1971, 1972, 1973, 1999, 2000, 2001, 2100, 2101, 2104, 2400, 3600, 3882, 3883} {
		for month := range time.Month(13) {
			marks = append(marks, hourOf(year, 1+month, 1), hourOf(year, 1+month, 2), hourOf(year, 1+month, 16))
		}
		marks = append(marks, hourOf(year, 2, 28), hourOf(year, 2, 28)+24, hourOf(year, 3, 1))
	}
	for _, m := range marks {
		l = append(l, m-1, m, m+1)
	}
	slices.Sort(l)
	return slices.Compact(l)
}

// --- P1901: Right

func TestRightAtTheEndsOfEachTier(t *testing.T) {
	for tier := 1; tier <= 3; tier++ {
		last := lasts()[tier]
		for _, i := range []int64{0, 1, 2, last / 2, last - 1, last} {
			p := api.Part{Tier: tier, Index: i}
			same(t, name(p), Right(p), true)
		}
		for _, i := range []int64{-1, -2, -last, last + 1, last + 2, 2*last + 1, least, least + 1, greatest, greatest - 1, 1 << 32, 1<<32 + 1, -1<<32 + 1, -1 << 32} {
			p := api.Part{Tier: tier, Index: i}
			same(t, name(p), Right(p), false)
		}
	}
}

func TestRightOfNoTier(t *testing.T) {
	for _, tier := range noTiers() {
		for _, i := range indexes() {
			p := api.Part{Tier: tier, Index: i}
			same(t, name(p), Right(p), false)
		}
	}
	same(t, "the zero partition", Right(api.Part{}), false)
}

func TestRightOfEachIndexByTheChaptersWords(t *testing.T) {
	for tier := 1; tier <= 3; tier++ {
		for _, i := range indexes() {
			p := api.Part{Tier: tier, Index: i}
			same(t, name(p), Right(p), rightAs(p))
		}
	}
}

// --- P1901: Of

func TestOfAtTheEndsOfTheCalendar(t *testing.T) {
	for _, c := range []struct{ hour, day, month int64 }{
		{0, 0, 0}, {1, 0, 0}, {23, 0, 0}, {24, 1, 0}, {25, 1, 0}, {47, 1, 0}, {48, 2, 0},
		{743, 30, 0}, {744, 31, 1}, {1415, 58, 1}, {1416, 59, 2}, // February of 1970
		{8759, 364, 11}, {8760, 365, 12}, // the first year
		{18959, 789, 25}, {18960, 790, 26}, // February of 1972, with a day more
		{lastHour - 1, lastDay, lastMonth}, {lastHour, lastDay, lastMonth},
		{lastHour - 16, lastDay, lastMonth}, {lastHour - 17, lastDay - 1, lastMonth}, {16777032, 699043, lastMonth}, {16777031, 699042, lastMonth - 1},
	} {
		for tier, i := range [4]int64{1: c.hour, 2: c.day, 3: c.month} {
			if tier > 0 {
				p, ok := Of(tier, c.hour)
				what := "tier " + strconv.Itoa(tier) + ", " + hourName(c.hour)
				same(t, what, p, api.Part{Tier: tier, Index: i})
				same(t, what+": there is one", ok, true)
			}
		}
	}
}

func TestOfWhereThereIsNone(t *testing.T) {
	for _, hour := range []int64{-1, -2, -23, -24, -25, -744, -lastHour, least, least + 1, lastHour + 1, lastHour + 2, lastHour + 7, lastHour + 8, lastHour + 744, 1 << 32, 1<<32 + 24, -1<<32 + 24, 1 << 62, greatest - 1, greatest} {
		for tier := 1; tier <= 3; tier++ {
			p, ok := Of(tier, hour)
			same(t, hourName(hour), p, api.Part{})
			same(t, hourName(hour)+": there is none", ok, false)
		}
	}
	for _, tier := range noTiers() {
		for _, hour := range hours() {
			p, ok := Of(tier, hour)
			what := "tier " + strconv.Itoa(tier) + ", " + hourName(hour)
			same(t, what, p, api.Part{})
			same(t, what+": there is none", ok, false)
		}
	}
}

func TestOfByTheLibrarysCalendar(t *testing.T) {
	for _, hour := range hours() {
		for tier := 1; tier <= 3; tier++ {
			got, ok := Of(tier, hour)
			want, there := ofAs(tier, hour)
			what := "tier " + strconv.Itoa(tier) + ", " + hourName(hour)
			same(t, what, got, want)
			same(t, what+": is there one", ok, there)
		}
	}
}

// --- P1901: Span

func TestSpanAtTheEnds(t *testing.T) {
	for _, c := range []struct {
		p        api.Part
		from, to int64
	}{
		{hourPart(0), 0, 1}, {hourPart(1), 1, 2}, {hourPart(lastHour - 1), lastHour - 1, lastHour}, {hourPart(lastHour), lastHour, lastHour + 1},
		{dayPart(0), 0, 24}, {dayPart(1), 24, 48}, {dayPart(31), 744, 768},
		{dayPart(lastDay - 1), lastHour - 40, lastHour - 16}, {dayPart(lastDay), lastHour - 16, lastHour + 8}, // it has MaxHour, and 7 hours beyond
		{monthPart(0), 0, 744}, {monthPart(1), 744, 1416}, {monthPart(2), 1416, 2160}, {monthPart(11), 8016, 8760}, {monthPart(12), 8760, 9504},
		{monthPart(25), 18264, 18960}, // February of 1972
		{monthPart(361), hourOf(2000, 2, 1), hourOf(2000, 2, 1) + 29*24}, {monthPart(1561), hourOf(2100, 2, 1), hourOf(2100, 2, 1) + 28*24},
		{monthPart(lastMonth - 1), 16776312, 16777032}, {monthPart(lastMonth), 16777032, 16777776}, // it has MaxHour, and most of it is beyond
	} {
		from, to := Span(c.p)
		same(t, name(c.p)+": first hour", from, c.from)
		same(t, name(c.p)+": end", to, c.to)
	}
}

func TestSpanOfWhatIsNotRight(t *testing.T) {
	for _, p := range wrongs() {
		from, to := Span(p)
		same(t, name(p)+": first hour", from, 0)
		same(t, name(p)+": end", to, 0)
	}
}

func TestSpanByTheLibrarysCalendar(t *testing.T) {
	for tier := 1; tier <= 3; tier++ {
		for _, i := range indexes() {
			p := api.Part{Tier: tier, Index: i}
			from, to := Span(p)
			first, end := spanAs(p)
			same(t, name(p)+": first hour", from, first)
			same(t, name(p)+": end", to, end)
		}
	}
}

func TestSpanOfEachDayAndEachMonth(t *testing.T) {
	for tier := 2; tier <= 3; tier++ {
		for i := int64(0); i <= lasts()[tier]; i++ {
			p := api.Part{Tier: tier, Index: i}
			from, to := Span(p)
			if first, end := spanAs(p); from != first || to != end {
				t.Fatalf("%s: from %d to %d, not from %d to %d", name(p), from, to, first, end)
			}
		}
	}
}

// --- P1901: Has

func TestHasAtBothEndsOfASpan(t *testing.T) {
	for _, p := range rights() {
		from, to := spanAs(p)
		for _, hour := range []int64{from, from + 1, (from + to) / 2, to - 2, to - 1} {
			same(t, name(p)+" has "+hourName(hour), Has(p, hour), hour >= from && hour < to)
		}
		for _, hour := range []int64{from - 1, from - 2, from - 24, to, to + 1, to + 24, -1, -2, least, least + from, least + to - 1, greatest, greatest - 1, from + 1<<32, from - 1<<32, lastHour + 1000} {
			same(t, name(p)+" has not "+hourName(hour), Has(p, hour), false)
		}
	}
}

// Those hours are in no partition that Of tells, but the chapter's words leave no hour of a span out.
func TestHasHoursBeyondMaxHour(t *testing.T) {
	for hour := int64(lastHour - 800); hour <= lastHour+800; hour++ {
		same(t, "the last hour has "+hourName(hour), Has(hourPart(lastHour), hour), hour == lastHour)
		same(t, "the last day has "+hourName(hour), Has(dayPart(lastDay), hour), hour >= 16777200 && hour < 16777224)
		same(t, "the last month has "+hourName(hour), Has(monthPart(lastMonth), hour), hour >= 16777032 && hour < 16777776)
	}
	for beyond := int64(1); beyond <= 800; beyond++ {
		same(t, "an hour beyond MaxHour", Has(hourPart(lastHour+beyond), lastHour+beyond), false)
	}
}

func TestHasNoHourBelowZero(t *testing.T) {
	for hour := int64(-800); hour < 0; hour++ {
		for tier := 1; tier <= 3; tier++ {
			for _, i := range []int64{-24, -2, -1, 0, 1, hour} {
				p := api.Part{Tier: tier, Index: i}
				same(t, name(p)+" has "+hourName(hour), Has(p, hour), false)
			}
		}
	}
}

func TestHasOfWhatIsNotRight(t *testing.T) {
	for _, p := range wrongs() {
		for _, hour := range append(hours(), p.Index, p.Index*24) {
			same(t, name(p)+" has "+hourName(hour), Has(p, hour), false)
		}
	}
}

func TestHasByTheLibrarysCalendar(t *testing.T) {
	for _, p := range rights() {
		from, to := spanAs(p)
		for _, hour := range hours() {
			same(t, name(p)+" has "+hourName(hour), Has(p, hour), hour >= from && hour < to)
		}
	}
}

// wrongs: partitions that are not right.
func wrongs() []api.Part {
	var l []api.Part
	for _, tier := range append(noTiers(), 1, 2, 3) {
		for _, i := range indexes() {
			if p := (api.Part{Tier: tier, Index: i}); !rightAs(p) {
				l = append(l, p)
			}
		}
	}
	return l
}

// rights: partitions that are right: at the ends of each tier, and at those of months, years, of February in leap years and in others.
func rights() []api.Part {
	var l []api.Part
	add := func(tier int, i int64) {
		if p := (api.Part{Tier: tier, Index: i}); rightAs(p) && !slices.Contains(l, p) {
			l = append(l, p)
		}
	}
	for _, month := range []int64{0, 1, 2, 3, 10, 11, 12, 13, 24, 25, 26, 37, 361, 362, 1561, 1562, lastMonth - 1, lastMonth} {
		add(3, month)
		from, to := spanAs(monthPart(month))
		for _, hour := range []int64{from - 24, from, from + 24, from + 360, to - 24, to} {
			add(2, hour/24)
			for _, by := range []int64{-1, 0, 1, 12, 23, 24} {
				add(1, hour+by)
			}
		}
	}
	for tier, last := range lasts() {
		add(tier, last)
		add(tier, last-1)
		add(tier, 0)
	}
	return l
}
