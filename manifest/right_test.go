package manifest

import (
	"slices"
	"testing"

	"ossuary/api"
	"ossuary/policy"
)

// rights: what Right answers, and that it changes nothing.
func rights(t *testing.T, what string, r Record, want api.Fault) {
	t.Helper()
	r, unchanged := roomy(t, r)
	for _, snap := range []bool{false, true} {
		r.Snap = snap
		same(t, what+": Right", Right(r), want)
	}
	unchanged(what)
}

// --- P2101: Right

func TestRightOfRecordsThatAreRight(t *testing.T) {
	rights(t, "no edit", record(true, nil, nil), api.OK)
	rights(t, "an empty edit", record(true, []api.Part{}, []api.Entry{}), api.OK)
	rights(t, "some", record(true, some(), ones(some()...)), api.OK)
	rights(t, "the ends of all that is dropped", record(true, edgeParts(), nil), api.OK)
	rights(t, "the ends of all that is put", record(true, nil, slices.Concat(ones(edgeParts()...), edgeEntries())), api.OK)
	rights(t, "the least numbers", withNumbers(record(true, nil, nil), [5]int64{4: 1}), api.OK)
	rights(t, "the greatest numbers", withNumbers(record(true, nil, nil), [5]int64{topNum, topTick, topNum, topFloor, topNum}), api.OK)
	rights(t, "the zero record", Record{}, api.Range)
}

func TestRightOfEachNumberAtItsEnds(t *testing.T) {
	for field, name := range fields() {
		for _, n := range edgesOf(field) {
			numbers := [5]int64{11, 12, 13, 14, 15}
			numbers[field] = n
			r := withNumbers(record(true, some()[:2], ones(some()...)), numbers)
			rights(t, name+" "+number(n), r, rightAs(r))
		}
	}
	for field, c := range [5]struct{ low, high int64 }{{0, 4611686018427387904}, {0, 60 * (16777216 + 1)}, {0, 4611686018427387904}, {0, 16777217}, {1, 4611686018427387904}} {
		for n, want := range map[int64]api.Fault{c.low - 1: api.Range, c.low: api.OK, c.high: api.OK, c.high + 1: api.Range} {
			numbers := [5]int64{11, 12, 13, 14, 15}
			numbers[field] = n
			rights(t, fields()[field]+" "+number(n), withNumbers(record(true, nil, nil), numbers), want)
		}
	}
}

func TestRightOfAllNumbersAtTheirEnds(t *testing.T) {
	edges := [5][]int64{{-1, 0, topNum, topNum + 1}, {-1, 0, topTick, topTick + 1}, {-1, 0, topNum, topNum + 1}, {-1, 0, topFloor, topFloor + 1}, {0, 1, topNum, topNum + 1}}
	for way := range 4 * 4 * 4 * 4 * 4 {
		var numbers [5]int64
		for field, rest := 0, way; field < 5; field++ {
			numbers[field] = edges[field][rest%4]
			rest /= 4
		}
		r := withNumbers(record(true, nil, nil), numbers)
		same(t, "way "+number(int64(way)), Right(r), rightAs(r))
	}
}

func TestRightOfPolicies(t *testing.T) {
	r := record(true, some(), ones(some()...))
	for _, p := range append(edgeRules(), policy.Plain()) {
		r.Rules = p
		rights(t, "a right policy", r, api.OK)
	}
	for _, p := range wrongRules() {
		r.Rules = p
		rights(t, "a wrong policy", r, api.Range)
		rights(t, "a wrong policy", r, policy.Check(p))
	}
}

func TestRightOfManyDropsAndPuts(t *testing.T) {
	for _, drops := range []int64{0, 1, 999, 1000, 1001, 1002, 5000} {
		for _, puts := range []int64{0, 1, 999, 1000, 1001, 1002, 5000} {
			want := api.OK
			if drops > 1000 || puts > 1000 {
				want = api.Full
			}
			r := record(true, hours(0, drops), ones(hours(0, puts)...))
			rights(t, number(drops)+" drops, "+number(puts)+" puts", r, want)
		}
	}
}

func TestRightOfPartitionsThatAreNotRight(t *testing.T) {
	for _, p := range wrongParts() {
		for at := range len(some()) + 1 {
			rights(t, "Drop of "+name(p), record(true, slices.Insert(some(), at, p), ones(some()...)), api.Malformed)
		}
		rights(t, "Drop of "+name(p)+" alone", record(true, []api.Part{p}, nil), api.Malformed)
		rights(t, "Drop of 1000, the last one "+name(p), record(true, append(hours(0, 999), p), nil), api.Malformed)
		rights(t, "Drop and Put of "+name(p), record(true, []api.Part{p}, ones(p)), api.Malformed)
	}
}

func TestRightOfEntriesThatAreNotRight(t *testing.T) {
	for _, e := range wrongEntries() {
		for at := range len(some()) + 1 {
			rights(t, "Put of a wrong entry", record(true, some(), slices.Insert(ones(some()...), at, e)), api.Malformed)
		}
		rights(t, "Put of a wrong entry alone", record(true, nil, []api.Entry{e}), api.Malformed)
		rights(t, "Put of 1000, the last one wrong", record(true, nil, append(ones(hours(0, 999)...), e)), api.Malformed)
	}
	for month := range int64(30) {
		rights(t, "a cold month", record(true, nil, []api.Entry{cold(month)}), api.OK)
	}
}

// Right asks neither for a catalog nor for an order: these are things of Apply.
func TestRightAsksForNothingElse(t *testing.T) {
	rights(t, "a partition dropped twice", record(true, []api.Part{hourPart(5), hourPart(5)}, nil), api.OK)
	rights(t, "an entry put twice", record(true, nil, ones(hourPart(5), hourPart(5))), api.OK)
	rights(t, "entries that meet", record(true, nil, ones(hourPart(5), dayPart(0), monthPart(0))), api.OK)
	rights(t, "hours falling", record(true, []api.Part{hourPart(6), hourPart(5), hourPart(0)}, ones(monthPart(1), dayPart(1), hourPart(5))), api.OK)
	r := record(true, nil, []api.Entry{{Part: hourPart(5), Seg: 99, Mark: 99, Rows: 99}})
	rights(t, "a Seg and a Mark above Next and Seq", r, api.OK)
}

// Numbers are told ahead of the policy, this ahead of how many there are, and that ahead of what is wrong with one.
func TestRightTellsTheFirstOfTwoFaults(t *testing.T) {
	many := hours(0, 1001)
	edits := []struct {
		r    Record
		want api.Fault
	}{
		{record(true, some(), ones(some()...)), api.OK},
		{record(true, many, nil), api.Full},
		{record(true, nil, ones(many...)), api.Full},
		{record(true, many, ones(many...)), api.Full},
		{record(true, []api.Part{{}}, ones(many...)), api.Full},
		{record(true, many, make([]api.Entry, 1)), api.Full},
		{record(true, make([]api.Part, 1001), nil), api.Full},
		{record(true, nil, make([]api.Entry, 1001)), api.Full},
		{record(true, make([]api.Part, 1000), make([]api.Entry, 1001)), api.Full},
		{record(true, make([]api.Part, 1001), make([]api.Entry, 1000)), api.Full},
		{record(true, make([]api.Part, 1000), make([]api.Entry, 1000)), api.Malformed},
		{record(true, []api.Part{{}}, nil), api.Malformed},
		{record(true, nil, make([]api.Entry, 1)), api.Malformed},
	}
	for _, c := range edits {
		rights(t, "an edit", c.r, c.want)
		for _, numbers := range wrongNumbers() {
			rights(t, "a wrong number", withNumbers(c.r, numbers), api.Range)
		}
		for _, p := range wrongRules() {
			r := c.r
			r.Rules = p
			rights(t, "a wrong policy", r, api.Range)
			rights(t, "a wrong policy, and a wrong number", withNumbers(r, [5]int64{}), api.Range)
		}
	}
}
