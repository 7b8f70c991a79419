package part

import (
	"strconv"
	"testing"

	"ossuary/api"
	"ossuary/policy"
)

const mostLag = 1048576

// lagged: plain, with these lags.
func lagged(hour, day, month int64) api.Policy {
	p := policy.Plain()
	p.SealLag, p.DayLag, p.MonthLag = hour, day, month
	return p
}

// wrongRules: policies of which one field is not right, whichever it is, and the zero one.
func wrongRules() []api.Policy {
	l := []api.Policy{{}}
	wrong := func(set func(p *api.Policy)) {
		for _, p := range []api.Policy{policy.Plain(), lagged(0, 0, 0)} {
			set(&p)
			l = append(l, p)
		}
	}
	for _, n := range []int64{-1, mostLag + 1, least, greatest, 1 << 32} {
		wrong(func(p *api.Policy) { p.SealLag = n })
		wrong(func(p *api.Policy) { p.DayLag = n })
		wrong(func(p *api.Policy) { p.MonthLag = n })
		wrong(func(p *api.Policy) { p.ColdLag = n })
		wrong(func(p *api.Policy) { p.Retain = n })
		wrong(func(p *api.Policy) { p.Base = n })
		wrong(func(p *api.Policy) { p.Cap = n })
		wrong(func(p *api.Policy) { p.Wal = n })
	}
	wrong(func(p *api.Policy) { p.Retain = 0 })
	wrong(func(p *api.Policy) { p.Base = 0 })
	wrong(func(p *api.Policy) { p.Cap = 0 })
	wrong(func(p *api.Policy) { p.Wal = 99 })
	wrong(func(p *api.Policy) { p.Queue = 0 })
	wrong(func(p *api.Policy) { p.Queue = -1 })
	wrong(func(p *api.Policy) { p.Queue = 65 })
	return l
}

// --- P1903: Due

func TestDueByPlain(t *testing.T) {
	for _, c := range []struct {
		p    api.Part
		from int64 // the first hour of the clock at which it is due
	}{
		{hourPart(0), 2}, {hourPart(5), 7}, {hourPart(lastHour), lastHour + 2},
		{dayPart(0), 26}, {dayPart(1), 50}, {dayPart(31), 770}, {dayPart(lastDay), lastHour + 10},
		{monthPart(0), 768}, {monthPart(1), 1440}, {monthPart(25), 18984}, {monthPart(lastMonth), 16777800},
	} {
		for _, hour := range []int64{c.from - 1, c.from - 2, 1, 0, -1, least, least + 1} {
			same(t, name(c.p)+" at "+hourName(hour), Due(c.p, policy.Plain(), hour), false)
		}
		for _, hour := range []int64{c.from, c.from + 1, c.from + 1<<32, greatest - 1, greatest} {
			same(t, name(c.p)+" at "+hourName(hour), Due(c.p, policy.Plain(), hour), true)
		}
	}
}

// Each tier waits for its own lag, whatever the others are.
func TestDueAtTheEndOfTheSpanAndItsLag(t *testing.T) {
	lags := []int64{0, 1, 2, 23, 24, 743, 744, mostLag - 1, mostLag}
	for _, p := range rights() {
		_, end := spanAs(p)
		for _, own := range lags {
			for _, other := range lags {
				l := [4]int64{1: other, 2: other, 3: other}
				l[p.Tier] = own
				rules := lagged(l[1], l[2], l[3])
				what := name(p) + ", lag " + strconv.FormatInt(own, 10) + ", the others' " + strconv.FormatInt(other, 10)
				same(t, what+", just ahead", Due(p, rules, end+own-1), false)
				same(t, what+", just there", Due(p, rules, end+own), true)
				same(t, what+", just behind", Due(p, rules, end+own+1), true)
			}
		}
	}
}

// Nothing but the tier's lag counts.
func TestDueOfOtherFields(t *testing.T) {
	for _, n := range []int64{1, 1000, mostLag} {
		rules := lagged(3, 5, 7)
		rules.Retain, rules.ColdLag, rules.Base, rules.Cap, rules.Wal, rules.Queue = n, n-1, n, n, 100+n/2, 64
		for _, p := range []api.Part{hourPart(100), dayPart(100), monthPart(100)} {
			_, end := spanAs(p)
			from := end + [4]int64{1: 3, 2: 5, 3: 7}[p.Tier]
			same(t, name(p)+", just ahead", Due(p, rules, from-1), false)
			same(t, name(p)+", just there", Due(p, rules, from), true)
		}
	}
}

func TestDueOfAPolicyThatIsNotRight(t *testing.T) {
	for _, rules := range wrongRules() {
		same(t, "the policy is wrong", policy.Check(rules), api.Range)
		for _, p := range []api.Part{hourPart(0), hourPart(lastHour), dayPart(0), dayPart(lastDay), monthPart(0), monthPart(lastMonth)} {
			for _, hour := range []int64{least, -1, 0, 1, 24, 744, 1 << 24, 1 << 25, 1 << 62, greatest} {
				same(t, name(p)+" at "+hourName(hour), Due(p, rules, hour), false)
			}
		}
	}
}

func TestDueOfAPartitionThatIsNotRight(t *testing.T) {
	for _, p := range wrongs() {
		for _, rules := range []api.Policy{policy.Plain(), lagged(0, 0, 0), lagged(mostLag, mostLag, mostLag)} {
			for _, hour := range []int64{least, -1, 0, 1, 1 << 25, greatest} {
				same(t, name(p)+" at "+hourName(hour), Due(p, rules, hour), false)
			}
		}
	}
}

// --- P1903: Best

// bestAs: by the chapter's words.
func bestAs(of int64, rules api.Policy, hour int64) int {
	best := 0
	for tier, lag := range [4]int64{1: rules.SealLag, 2: rules.DayLag, 3: rules.MonthLag} {
		p, ok := ofAs(tier, of)
		if _, end := spanAs(p); ok && policy.Check(rules) == api.OK && hour-end >= lag {
			best = tier
		}
	}
	return best
}

func TestBestWhereNoneOneTwoAndAllAreDue(t *testing.T) {
	for _, c := range []struct {
		rules    api.Policy
		of, hour int64
		want     int
	}{
		{policy.Plain(), 745, 0, 0}, {policy.Plain(), 745, 745, 0}, {policy.Plain(), 745, 746, 0}, {policy.Plain(), 745, 747, 1}, {policy.Plain(), 745, 769, 1},
		{policy.Plain(), 745, 770, 2}, {policy.Plain(), 745, 800, 2}, {policy.Plain(), 745, 1439, 2}, {policy.Plain(), 745, 1440, 3}, {policy.Plain(), 745, greatest, 3},
		{policy.Plain(), 0, 1, 0}, {policy.Plain(), 0, 2, 1}, {policy.Plain(), 0, 25, 1}, {policy.Plain(), 0, 26, 2}, {policy.Plain(), 0, 767, 2}, {policy.Plain(), 0, 768, 3},
		{lagged(0, 0, 0), 0, 0, 0}, {lagged(0, 0, 0), 0, 1, 1}, {lagged(0, 0, 0), 0, 24, 2}, {lagged(0, 0, 0), 0, 744, 3},
		{lagged(0, 0, 0), 743, 743, 0}, {lagged(0, 0, 0), 743, 744, 3}, // the last hour of a day and of a month: all three at once
		{lagged(0, 0, 0), 47, 47, 0}, {lagged(0, 0, 0), 47, 48, 2}, // the last one of a day: two
		{lagged(mostLag, mostLag, mostLag), 5, mostLag + 5, 0}, {lagged(mostLag, mostLag, mostLag), 5, mostLag + 6, 1},
		{lagged(mostLag, mostLag, mostLag), 5, mostLag + 24, 2}, {lagged(mostLag, mostLag, mostLag), 5, mostLag + 744, 3},
		{policy.Plain(), lastHour, lastHour + 1, 0}, {policy.Plain(), lastHour, lastHour + 2, 1}, {policy.Plain(), lastHour, lastHour + 10, 2}, {policy.Plain(), lastHour, 16777799, 2}, {policy.Plain(), lastHour, 16777800, 3},
	} {
		same(t, "Best of "+hourName(c.of)+" at "+hourName(c.hour), Best(c.of, c.rules, c.hour), c.want)
	}
}

func TestBestWhereAGreaterTierIsDueButNotALesserOne(t *testing.T) {
	for _, c := range []struct {
		rules api.Policy
		hour  int64
		want  int
	}{
		// the month alone: neither the day nor the hour
		{lagged(mostLag, mostLag, 0), 743, 0}, {lagged(mostLag, mostLag, 0), 744, 3},
		// the day alone: neither the month nor the hour
		{lagged(mostLag, 0, mostLag), 23, 0}, {lagged(mostLag, 0, mostLag), 24, 2}, {lagged(mostLag, 0, mostLag), 800, 2},
		// the month and the hour, not the day
		{lagged(0, mostLag, 0), 6, 1}, {lagged(0, mostLag, 0), 743, 1}, {lagged(0, mostLag, 0), 744, 3},
		// the month and the day, not the hour
		{lagged(mostLag, 0, 0), 24, 2}, {lagged(mostLag, 0, 0), 743, 2}, {lagged(mostLag, 0, 0), 744, 3},
		// the hour alone, for long
		{lagged(0, mostLag, mostLag), 5, 0}, {lagged(0, mostLag, mostLag), 6, 1}, {lagged(0, mostLag, mostLag), mostLag + 23, 1}, {lagged(0, mostLag, mostLag), mostLag + 24, 2},
	} {
		same(t, "Best of hour 5 at "+hourName(c.hour), Best(5, c.rules, c.hour), c.want)
	}
}

func TestBestByTheChaptersWords(t *testing.T) {
	lags := []int64{0, 1, 25, 800, mostLag}
	for _, of := range hours() {
		for i := range len(lags) * len(lags) * len(lags) {
			rules := lagged(lags[i%5], lags[i/5%5], lags[i/25])
			for tier := 1; tier <= 3; tier++ {
				p, ok := ofAs(tier, of)
				if !ok {
					continue
				}
				_, end := spanAs(p)
				lag := [4]int64{1: rules.SealLag, 2: rules.DayLag, 3: rules.MonthLag}[tier]
				for _, hour := range []int64{end + lag - 1, end + lag} {
					if got, want := Best(of, rules, hour), bestAs(of, rules, hour); got != want {
						t.Errorf("Best of hour %d at hour %d, %v: %d, not %d", of, hour, rules, got, want)
					}
				}
			}
		}
	}
}

func TestBestOfHoursThatAreInNoPartition(t *testing.T) {
	for _, of := range []int64{-1, -2, -24, -744, least, least + 1, lastHour + 1, lastHour + 2, lastHour + 7, lastHour + 8, lastHour + 559, 1 << 32, 1 << 62, greatest - 1, greatest} {
		for _, rules := range []api.Policy{policy.Plain(), lagged(0, 0, 0), lagged(mostLag, mostLag, mostLag)} {
			for _, hour := range []int64{least, -1, 0, 1, 24, 744, 1 << 25, 1 << 33, 1 << 62, greatest} {
				same(t, "Best of "+hourName(of)+" at "+hourName(hour), Best(of, rules, hour), 0)
			}
		}
	}
}

func TestBestOfAPolicyThatIsNotRight(t *testing.T) {
	for _, rules := range wrongRules() {
		for _, of := range []int64{least, -1, 0, 5, 744, lastHour, lastHour + 1, greatest} {
			for _, hour := range []int64{least, -1, 0, 1, 24, 744, 1 << 25, 1 << 62, greatest} {
				same(t, "Best of "+hourName(of)+" at "+hourName(hour), Best(of, rules, hour), 0)
			}
		}
	}
}

func TestBestAtHoursFarAway(t *testing.T) {
	for _, of := range []int64{0, 1, 744, lastHour} {
		for _, rules := range []api.Policy{policy.Plain(), lagged(0, 0, 0), lagged(mostLag, mostLag, mostLag)} {
			for _, hour := range []int64{least, least + 1, -1 << 32, -mostLag, -1, 0} {
				same(t, "Best of "+hourName(of)+" at "+hourName(hour), Best(of, rules, hour), 0)
			}
			for _, hour := range []int64{1 << 25, 1 << 32, 1 << 62, greatest - 1, greatest} {
				same(t, "Best of "+hourName(of)+" at "+hourName(hour), Best(of, rules, hour), 3)
			}
		}
	}
}
