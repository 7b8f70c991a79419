package part

import (
	"ossuary/api"
	"ossuary/policy"
)

// Due: whether the clock's hour is far enough behind a partition for it to be built.
func Due(p api.Part, rules api.Policy, hour int64) bool {
	if !Right(p) || policy.Check(rules) != api.OK {
		return false
	}
	_, end := Span(p)
	lag, _ := policy.Lag(rules, p.Tier)
	return hour >= end+lag
}

// Best: the greatest tier whose partition of an hour is due. A lesser one may have the greater lag, so that its being due tells nothing of those above it.
func Best(of int64, rules api.Policy, hour int64) int {
	best := 0
tiers:
	for tier := api.Month; tier >= api.Hour; tier-- {
		p, ok := Of(tier, of)
		switch {
		case !ok: // the hour is in no partition of any tier
			break tiers
		case Due(p, rules, hour):
			best = tier
			break tiers
		}
	}
	return best
}
