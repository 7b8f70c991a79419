package policy

import (
	"math"
	"math/big"
	"slices"
	"strconv"
	"testing"

	"ossuary/api"
)

// --- P1802: Lag

func TestLagOfTheTiers(t *testing.T) {
	p := policyOf([]int64{7, 11, 12, 13, 14, 15, 16, 17, 180})
	for _, c := range []struct {
		tier int
		want int64
	}{{1, 11}, {2, 12}, {3, 13}, {api.Hour, 11}, {api.Day, 12}, {api.Month, 13}} {
		lag, ok := Lag(p, c.tier)
		same(t, "tier "+strconv.Itoa(c.tier), lag, c.want)
		same(t, "tier "+strconv.Itoa(c.tier)+" has one", ok, true)
	}
	for _, p := range some() {
		for tier := 1; tier <= 3; tier++ {
			lag, ok := Lag(p, tier)
			same(t, "tier "+strconv.Itoa(tier), lag, numbers(p)[tier])
			same(t, "tier "+strconv.Itoa(tier)+" has one, also of 0", ok, true)
		}
	}
}

func TestLagOfNoTier(t *testing.T) {
	for _, tier := range []int{0, 4, 5, 6, 9, -1, -2, -3, 257, 258, 1 << 16, 1<<16 + 1, 1<<32 + 1, 1<<32 + 3, -1<<32 + 2, math.MinInt, math.MinInt + 1, math.MinInt + 3, math.MaxInt, math.MaxInt - 1} {
		for _, p := range some() {
			lag, ok := Lag(p, tier)
			same(t, "tier "+strconv.Itoa(tier), lag, 0)
			same(t, "tier "+strconv.Itoa(tier)+" has none", ok, false)
		}
	}
}

// Of policies that are not right nothing is promised but an end.
func TestLagOfOthersEnds(t *testing.T) {
	for _, n := range edges() {
		for _, tier := range []int{math.MinInt, -1, 0, 1, 2, 3, 4, math.MaxInt} {
			Lag(policyOf(slices.Repeat([]int64{n}, 9)), tier)
		}
	}
}

// --- P1802: Cutoff

func TestCutoff(t *testing.T) {
	for _, c := range []struct{ retain, hour, want int64 }{
		{2000, 0, 0}, {2000, 5, 0}, {2000, 1999, 0}, {2000, 2000, 0}, {2000, 2001, 1}, {2000, 2005, 5}, {2000, 1 << 24, 1<<24 - 2000},
		{1, 0, 0}, {1, 1, 0}, {1, 2, 1}, {1, 3, 2}, {1, 1 << 62, 1<<62 - 1},
		{1 << 20, 0, 0}, {1 << 20, 1<<20 - 1, 0}, {1 << 20, 1 << 20, 0}, {1 << 20, 1<<20 + 1, 1}, {1 << 20, 1 << 62, 1<<62 - 1<<20},
	} {
		what := "Retain " + strconv.FormatInt(c.retain, 10) + ", hour " + strconv.FormatInt(c.hour, 10)
		same(t, what, Cutoff(with(Plain(), 0, c.retain), c.hour), c.want)
	}
}

func TestCutoffOfEachHourAroundRetain(t *testing.T) {
	for _, retain := range []int64{1, 2, 3, 24, 100, 999} {
		want := int64(0)
		for hour := range int64(2000) {
			if hour > retain {
				want++
			}
			same(t, "Retain "+strconv.FormatInt(retain, 10), Cutoff(with(Plain(), 0, retain), hour), want)
		}
	}
}

// Nothing but Retain counts.
func TestCutoffOfPoliciesThatAreRight(t *testing.T) {
	for _, p := range some() {
		for _, more := range []int64{0, 1, 2, 1 << 20, 1 << 31, 1 << 32, 1<<62 - p.Retain} {
			same(t, "above Retain", Cutoff(p, p.Retain+more), more)
		}
		for _, less := range []int64{0, 1, p.Retain / 2, p.Retain - 1, p.Retain} {
			same(t, "below Retain", Cutoff(p, p.Retain-less), 0)
		}
	}
}

// Of others nothing is promised but an end; what there is leaves no range: it is never below 0, nor above the hour.
func TestCutoffOfOthers(t *testing.T) {
	for _, retain := range edges() {
		for _, hour := range edges() {
			got := Cutoff(api.Policy{Retain: retain}, hour)
			same(t, "Retain "+strconv.FormatInt(retain, 10)+", hour "+strconv.FormatInt(hour, 10), got >= 0 && got <= max(hour, 0), true)
		}
	}
}

// --- P1802: Delay

// waits: a policy with that Base and Cap.
func waits(base, top int64) api.Policy {
	return with(with(Plain(), 5, base), 6, top)
}

// delayAs: what Delay answers, by numbers without a bound.
func delayAs(base, top int64, try int) int64 {
	n := new(big.Int).Lsh(big.NewInt(base), uint(min(max(try, 0), 1000)))
	if n.Cmp(big.NewInt(top)) > 0 {
		return top
	}
	return n.Int64()
}

// tries: of each kind, at the places where a shift by so many bits is another one.
func tries() []int {
	l := []int{math.MinInt, math.MinInt + 1, -1 << 32, -1<<32 + 1, -65, -64, -63, -2, -1, 127, 128, 129, 255, 256, 257, 999, 1000, 1 << 16, 1 << 31, 1<<32 - 1, 1 << 32, 1<<32 + 1, 1 << 62, math.MaxInt - 1, math.MaxInt}
	for try := range 70 {
		l = append(l, try)
	}
	return l
}

func TestDelayOfPlain(t *testing.T) {
	for _, c := range []struct {
		try  int
		want int64
	}{
		{math.MinInt, 2}, {-2, 2}, {-1, 2}, {0, 2}, {1, 4}, {2, 8}, {3, 16}, {4, 32}, {5, 60}, {6, 60}, {7, 60},
		{61, 60}, {62, 60}, {63, 60}, {64, 60}, {65, 60}, {66, 60}, {100, 60}, {1000, 60}, {math.MaxInt, 60},
	} {
		same(t, "try "+strconv.Itoa(c.try), Delay(Plain(), c.try), c.want)
	}
}

func TestDelayAtTheEnds(t *testing.T) {
	for _, c := range []struct {
		base, top int64
		try       int
		want      int64
	}{
		{1, 1 << 20, 0, 1}, {1, 1 << 20, 1, 2}, {1, 1 << 20, 19, 1 << 19}, {1, 1 << 20, 20, 1 << 20}, {1, 1 << 20, 21, 1 << 20}, {1, 1 << 20, 64, 1 << 20},
		{1, 1<<20 - 1, 19, 1 << 19}, {1, 1<<20 - 1, 20, 1<<20 - 1}, {1, 1<<20 - 1, 21, 1<<20 - 1},
		{1, 1<<19 + 1, 19, 1 << 19}, {1, 1<<19 + 1, 20, 1<<19 + 1},
		{1, 1, 0, 1}, {1, 1, 1, 1}, {1, 1, 63, 1}, {1, 1, math.MaxInt, 1}, {1, 2, 1, 2}, {1, 2, 2, 2}, {1, 3, 1, 2}, {1, 3, 2, 3}, {1, 4, 2, 4}, {1, 4, 3, 4},
		{3, 5, 0, 3}, {3, 5, 1, 5}, {3, 6, 1, 6}, {3, 6, 2, 6}, {3, 7, 1, 6}, {3, 7, 2, 7}, {3, 12, 2, 12}, {3, 13, 2, 12}, {3, 13, 3, 13},
		{60, 60, -1, 60}, {60, 60, 0, 60}, {60, 60, 1, 60}, {61, 60, 0, 60}, {61, 60, -5, 60}, {61, 60, 1, 60}, {2, 1, 0, 1}, {2, 1, 64, 1},
		{1 << 20, 1, 0, 1}, {1 << 20, 1 << 20, 0, 1 << 20}, {1 << 20, 1 << 20, math.MaxInt, 1 << 20}, {1 << 20, 1<<20 - 1, 0, 1<<20 - 1},
	} {
		what := "Base " + strconv.FormatInt(c.base, 10) + ", Cap " + strconv.FormatInt(c.top, 10) + ", try " + strconv.Itoa(c.try)
		same(t, what, Delay(waits(c.base, c.top), c.try), c.want)
	}
}

func TestDelayIsBaseDoubledUpToCap(t *testing.T) {
	ends := []int64{1, 2, 3, 4, 5, 6, 7, 8, 9, 15, 16, 17, 31, 32, 33, 59, 60, 61, 100, 1000, 1023, 1024, 1025, 1<<19 - 1, 1 << 19, 1<<19 + 1, 1<<20 - 1, 1 << 20}
	for _, base := range ends {
		for _, top := range ends {
			for _, try := range tries() {
				if got, want := Delay(waits(base, top), try), delayAs(base, top, try); got != want {
					t.Errorf("Base %d, Cap %d, try %d: %d, not %d", base, top, try, got, want)
				}
			}
		}
	}
}

// Nothing but Base and Cap counts.
func TestDelayOfPoliciesThatAreRight(t *testing.T) {
	for _, p := range some() {
		for _, try := range tries() {
			same(t, "try "+strconv.Itoa(try), Delay(p, try), delayAs(p.Base, p.Cap, try))
		}
	}
}

// A Cap beyond those of right policies: nothing is promised of it, but doubling leaves no range.
func TestDelayDoublesUpToAnyCap(t *testing.T) {
	for _, base := range edges() {
		for _, top := range edges() {
			for _, try := range tries() {
				if base > 0 && top > 0 {
					same(t, "try "+strconv.Itoa(try), Delay(api.Policy{Base: base, Cap: top}, try), delayAs(base, top, try))
				}
			}
		}
	}
}

// Of others nothing is promised but an end.
func TestDelayOfOthersEnds(t *testing.T) {
	for _, base := range edges() {
		for _, top := range edges() {
			for _, try := range tries() {
				Delay(api.Policy{Base: base, Cap: top}, try)
			}
		}
	}
}
