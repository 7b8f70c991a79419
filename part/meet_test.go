package part

import (
	"testing"

	"ossuary/api"
)

// --- P1902: Within, Meets, Less

// withinAs, meetsAs: by the chapter's words, hour by hour.
func withinAs(a, b api.Part) bool {
	from, to := spanAs(a)
	first, end := spanAs(b)
	for hour := from; hour < to; hour++ {
		if hour < first || hour >= end {
			return false
		}
	}
	return from < to && first < end
}

func meetsAs(a, b api.Part) bool {
	from, to := spanAs(a)
	first, end := spanAs(b)
	for hour := from; hour < to; hour++ {
		if hour >= first && hour < end {
			return true
		}
	}
	return false
}

func lessAs(a, b api.Part) bool {
	if !rightAs(a) || !rightAs(b) {
		return false
	}
	first, _ := spanAs(a)
	second, _ := spanAs(b)
	if first == second {
		return a.Tier < b.Tier
	}
	return first < second
}

// relation: what is told of two partitions, and what of them the other way round.
type relation struct {
	a, b          api.Part
	within, meets bool
	less          bool
	around, after bool // Within and Less of b and a
}

func (c relation) hold(t *testing.T) {
	t.Helper()
	what := name(c.a) + " and " + name(c.b)
	same(t, what+": Within", Within(c.a, c.b), c.within)
	same(t, what+": Meets", Meets(c.a, c.b), c.meets)
	same(t, what+": Less", Less(c.a, c.b), c.less)
	same(t, what+": Within, the other way round", Within(c.b, c.a), c.around)
	same(t, what+": Meets, the other way round", Meets(c.b, c.a), c.meets)
	same(t, what+": Less, the other way round", Less(c.b, c.a), c.after)
}

func TestAPartitionWithItself(t *testing.T) {
	for _, p := range rights() {
		relation{a: p, b: p, within: true, meets: true, around: true}.hold(t)
	}
}

func TestNeighbours(t *testing.T) {
	for _, p := range rights() {
		if next := (api.Part{Tier: p.Tier, Index: p.Index + 1}); rightAs(next) {
			relation{a: p, b: next, less: true}.hold(t)
		}
	}
}

func TestHoursDaysAndMonths(t *testing.T) {
	for _, c := range []relation{
		// an hour in its day, and at both ends of it
		{a: hourPart(30), b: dayPart(1), within: true, meets: true, after: true},
		{a: hourPart(47), b: dayPart(1), within: true, meets: true, after: true},
		{a: hourPart(25), b: dayPart(1), within: true, meets: true, after: true},
		{a: hourPart(23), b: dayPart(1), less: true},
		{a: hourPart(48), b: dayPart(1), after: true},
		// an hour in its month
		{a: hourPart(745), b: monthPart(1), within: true, meets: true, after: true},
		{a: hourPart(1415), b: monthPart(1), within: true, meets: true, after: true},
		{a: hourPart(743), b: monthPart(1), less: true},
		{a: hourPart(1416), b: monthPart(1), after: true},
		// a day at either end of a month, and behind these
		{a: dayPart(58), b: monthPart(1), within: true, meets: true, after: true},
		{a: dayPart(32), b: monthPart(1), within: true, meets: true, after: true},
		{a: dayPart(30), b: monthPart(1), less: true},
		{a: dayPart(59), b: monthPart(1), after: true},
		// with the same first hour, of unlike tiers
		{a: hourPart(24), b: dayPart(1), within: true, meets: true, less: true},
		{a: hourPart(744), b: dayPart(31), within: true, meets: true, less: true},
		{a: hourPart(744), b: monthPart(1), within: true, meets: true, less: true},
		{a: dayPart(31), b: monthPart(1), within: true, meets: true, less: true},
		{a: hourPart(0), b: dayPart(0), within: true, meets: true, less: true},
		{a: hourPart(0), b: monthPart(0), within: true, meets: true, less: true},
		{a: dayPart(0), b: monthPart(0), within: true, meets: true, less: true},
		// with the same Index, but other hours
		{a: hourPart(1), b: dayPart(1), less: true},
		{a: hourPart(1), b: monthPart(1), less: true},
		{a: dayPart(1), b: monthPart(1), less: true},
		{a: monthPart(1), b: dayPart(lastDay), less: true},
		{a: hourPart(25), b: dayPart(2), less: true},
		// the last ones, which have hours beyond MaxHour
		{a: hourPart(lastHour), b: dayPart(lastDay), within: true, meets: true, after: true},
		{a: hourPart(lastHour), b: monthPart(lastMonth), within: true, meets: true, after: true},
		{a: dayPart(lastDay), b: monthPart(lastMonth), within: true, meets: true, after: true},
		{a: dayPart(lastDay), b: monthPart(lastMonth - 1), after: true},
		{a: hourPart(lastHour), b: dayPart(lastDay - 1), after: true},
		{a: dayPart(699043), b: monthPart(lastMonth), within: true, meets: true, less: true},
		{a: dayPart(699042), b: monthPart(lastMonth), less: true},
		{a: dayPart(699042), b: monthPart(lastMonth - 1), within: true, meets: true, after: true},
	} {
		c.hold(t)
	}
}

func TestTwoPartitionsHourByHour(t *testing.T) {
	l := rights()
	for _, a := range l {
		for _, b := range l {
			what := name(a) + " and " + name(b)
			same(t, what+": Within", Within(a, b), withinAs(a, b))
			same(t, what+": Meets", Meets(a, b), meetsAs(a, b))
			same(t, what+": Less", Less(a, b), lessAs(a, b))
		}
	}
}

func TestAPartitionThatIsNotRight(t *testing.T) {
	none := func(a, b api.Part) {
		t.Helper()
		relation{a: a, b: b}.hold(t)
	}
	l := rights()
	for _, wrong := range wrongs() {
		none(wrong, wrong)
		none(wrong, api.Part{})
		for i := 0; i < len(l); i += 7 {
			none(wrong, l[i])
		}
		for _, p := range []api.Part{hourPart(0), dayPart(0), monthPart(0), dayPart(lastDay), monthPart(lastMonth)} {
			none(wrong, p)
		}
	}
}

// Behind MaxHour the last day and the last month go on, but what would be in them there is not right.
func TestPartitionsBehindMaxHour(t *testing.T) {
	for beyond := int64(1); beyond <= 30; beyond++ {
		relation{a: hourPart(lastHour + beyond), b: dayPart(lastDay)}.hold(t)
		relation{a: hourPart(lastHour + beyond), b: monthPart(lastMonth)}.hold(t)
		relation{a: dayPart(lastDay + beyond), b: monthPart(lastMonth)}.hold(t)
	}
}

func TestTwoPartitionsThatAreNotRight(t *testing.T) {
	l := wrongs()
	for i := 0; i < len(l); i += 13 {
		for j := 0; j < len(l); j += 11 {
			if Within(l[i], l[j]) || Meets(l[i], l[j]) || Less(l[i], l[j]) {
				t.Errorf("%s and %s: something is told", name(l[i]), name(l[j]))
			}
		}
	}
}
