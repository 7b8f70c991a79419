package part

import (
	"testing"

	"ossuary/api"
	"ossuary/policy"
)

// --- P1904

// Each partition of a tier begins where the one ahead of it ends: from hour 0 to behind MaxHour no hour is left out, and none is in two.
func TestPartitionsOfATierPartTheHours(t *testing.T) {
	for tier := 1; tier <= 3; tier++ {
		last := lasts()[tier]
		next := int64(0)
		for i := int64(0); i <= last; i++ {
			from, to := Span(api.Part{Tier: tier, Index: i})
			if from != next || to <= from || from > lastHour {
				t.Fatalf("tier %d, %d: from %d to %d, not from %d on", tier, i, from, to, next)
			}
			next = to
		}
		same(t, "the last one has MaxHour", next > lastHour, true)
	}
}

// The hours at both ends of each day, all hours of the first 4 years and of the last one: Of and Has tell of one partition of each tier, the one whose span has it.
func TestEachHourIsInOnePartitionOfEachTier(t *testing.T) {
	held := func(hour int64) {
		t.Helper()
		for tier := 1; tier <= 3; tier++ {
			p, ok := Of(tier, hour)
			from, to := Span(p)
			if !ok || p.Tier != tier || !Right(p) || hour < from || hour >= to || !Has(p, hour) {
				t.Fatalf("tier %d, hour %d: %v, from %d to %d", tier, hour, p, from, to)
			}
			if Has(api.Part{Tier: tier, Index: p.Index - 1}, hour) || Has(api.Part{Tier: tier, Index: p.Index + 1}, hour) {
				t.Fatalf("tier %d, hour %d: in a neighbour too", tier, hour)
			}
		}
	}
	for day := int64(0); day < lastDay; day++ {
		held(24 * day)
		held(24*day + 23)
	}
	for hour := range int64(4 * 366 * 24) {
		held(hour)
		held(lastHour - hour/4)
	}
}

// Of all days and months none has the hour but the one that Of tells.
func TestNoOtherPartitionHasTheHour(t *testing.T) {
	for _, hour := range []int64{0, 23, 24, 743, 744, 1415, 1416, 8759, 8760, 18959, 18960, 10000000, lastHour - 1, lastHour} {
		for tier := 1; tier <= 3; tier++ {
			found := 0
			for i := int64(-1); i <= min(lasts()[tier]+1, lastDay+1); i++ {
				if Has(api.Part{Tier: tier, Index: i}, hour) {
					found++
				}
			}
			if want := 1; tier > 1 || hour <= lastDay {
				same(t, hourName(hour)+" is in so many", found, want)
			}
		}
	}
}

func TestTwoThatMeetAreOneWithinTheOther(t *testing.T) {
	l := rights()
	for _, a := range l {
		for _, b := range l {
			what := name(a) + " and " + name(b)
			same(t, what, Meets(a, b), Within(a, b) || Within(b, a))
			if a.Tier == b.Tier {
				same(t, what+", of one tier", Meets(a, b), a == b)
			}
			if Within(a, b) && Within(b, a) {
				same(t, what+", either within the other", a, b)
			}
		}
	}
}

// Each day is within the month of its first hour, which is that of its last one, and meets none beside it.
func TestEachDayIsWithinOneMonth(t *testing.T) {
	for day := int64(0); day <= lastDay; day++ {
		p := dayPart(day)
		month, ok := Of(3, 24*day)
		if !ok || !Within(p, month) || !Meets(p, month) || !Meets(month, p) || Within(month, p) {
			t.Fatalf("day %d is not within month %d", day, month.Index)
		}
		for _, by := range []int64{-1, 1} {
			if beside := monthPart(month.Index + by); Meets(p, beside) || Within(p, beside) {
				t.Fatalf("day %d meets month %d", day, beside.Index)
			}
		}
	}
}

// An hour's partitions are one within the other, from its hour to its month.
func TestAnHoursPartitionsAreOneWithinTheOther(t *testing.T) {
	for _, hour := range hours() {
		if hour < 0 || hour > lastHour {
			continue
		}
		for low := 1; low <= 3; low++ {
			for high := low; high <= 3; high++ {
				a, _ := Of(low, hour)
				b, _ := Of(high, hour)
				same(t, hourName(hour)+": within", Within(a, b), true)
				same(t, hourName(hour)+": around", Within(b, a), low == high)
				same(t, hourName(hour)+": meets", Meets(a, b) && Meets(b, a), true)
			}
		}
	}
}

// Of two that are not the same one is less; and it goes on so over a third.
func TestLessPutsThemInOneOrder(t *testing.T) {
	l := rights()
	for _, a := range l {
		for _, b := range l {
			same(t, name(a)+" and "+name(b), Less(a, b) || Less(b, a), a != b)
			same(t, name(a)+" and "+name(b)+", not both", Less(a, b) && Less(b, a), false)
		}
	}
	for i := 0; i < len(l); i += 3 {
		for j := 1; j < len(l); j += 3 {
			for k := 2; k < len(l); k += 5 {
				if Less(l[i], l[j]) && Less(l[j], l[k]) && !Less(l[i], l[k]) {
					t.Errorf("%v, %v, %v: not in one order", l[i], l[j], l[k])
				}
			}
		}
	}
}

// What is due stays due, while the clock goes on.
func TestWhatIsDueStaysDue(t *testing.T) {
	for _, of := range []int64{0, 5, 743, 744, 1000} {
		best := 0
		for hour := range int64(2500) {
			now := Best(of, policy.Plain(), hour)
			if now < best {
				t.Fatalf("Best of hour %d falls at hour %d", of, hour)
			}
			best = now
		}
		same(t, "in the end", best, 3)
	}
}
