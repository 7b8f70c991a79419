package manifest

import (
	"slices"
	"testing"

	"ossuary/api"
	"ossuary/catalog"
)

// steps: Step of a state that is as the model answers what the chapter says, and the state is as the chapter says behind it; this, and the fault.
func steps(t *testing.T, what string, s *State, m model, r Record) (model, api.Fault) {
	t.Helper()
	next, want := m.step(r)
	r, unchanged := roomy(t, r)
	same(t, what+": Step", Step(s, r), want)
	unchanged(what)
	holds(t, what+", behind it", s, next)
	return next, want
}

// stepsTo: likewise, and the fault is this one.
func stepsTo(t *testing.T, what string, s *State, m model, r Record, want api.Fault) model {
	t.Helper()
	next, fault := steps(t, what, s, m, r)
	same(t, what+": by the chapter's words", fault, want)
	return next
}

// --- P2102: BadArg

func TestStepOfNoState(t *testing.T) {
	for _, r := range append(append(wrongRecords(), rightRecords()...), record(true, some(), nil), edits(some()), snap(ones(dayPart(0), hourPart(5))...)) {
		same(t, "nil", Step(nil, r), api.BadArg)
	}
}

func TestStepOfAStateWithoutParts(t *testing.T) {
	for _, r := range append(append(wrongRecords(), rightRecords()...), record(true, some(), nil), edits(some()), snap(ones(dayPart(0), hourPart(5))...)) {
		for _, had := range []State{{}, {Seq: 1, Tick: 2, Budget: 3, Floor: 4, Next: 5, Rules: rules()}} {
			s := had
			same(t, "without Parts", Step(&s, r), api.BadArg)
			same(t, "without Parts, behind it", s, had)
		}
	}
}

// --- P2102: Step

func TestStepOfEditsAndSnaps(t *testing.T) {
	s, m := empty(), model{}
	m = stepsTo(t, "nothing", s, m, numbered(edits(nil), 1), api.OK)
	m = stepsTo(t, "hours", s, m, numbered(edits(nil, ones(hourPart(5), hourPart(24), hourPart(30), hourPart(750))...), 2), api.OK)
	m = stepsTo(t, "nothing again", s, m, numbered(edits(nil), 3), api.OK)
	m = stepsTo(t, "a day for its hours", s, m, numbered(edits([]api.Part{hourPart(30), hourPart(24)}, one(dayPart(1))), 4), api.OK)
	m = stepsTo(t, "a month for a day and an hour", s, m, numbered(edits([]api.Part{hourPart(5), dayPart(1)}, one(monthPart(0))), 5), api.OK)
	m = stepsTo(t, "a month that gets cold", s, m, numbered(edits([]api.Part{monthPart(0)}, cold(0)), 6), api.OK)
	same(t, "how many entries", len(m.entries), 2)
	m = stepsTo(t, "Snap of the same", s, m, numbered(snap(cold(0), one(hourPart(750))), 7), api.OK)
	m = stepsTo(t, "Snap of others", s, m, numbered(snap(ones(some()...)...), 8), api.OK)
	m = stepsTo(t, "Snap of what meets these", s, m, numbered(snap(one(monthPart(0)), cold(1), one(monthPart(2))), 9), api.OK)
	m = stepsTo(t, "all dropped", s, m, numbered(edits([]api.Part{monthPart(2), monthPart(0), monthPart(1)}), 10), api.OK)
	m = stepsTo(t, "Snap upon nothing", s, m, numbered(snap(one(dayPart(5))), 11), api.OK)
	m = stepsTo(t, "Snap of nothing", s, m, numbered(snap(), 12), api.OK)
	stepsTo(t, "an hour", s, m, numbered(edits(nil, one(hourPart(120))), 13), api.OK)
}

// The numbers and the policy are the record's, whatever those ahead were.
func TestStepOfNumbers(t *testing.T) {
	s, m := stateOf(t, ones(some()...)...)
	for _, r := range rightRecords() {
		r.Edit = catalog.Edit{}
		for _, is := range []bool{false, true} {
			r.Snap = is
			m = stepsTo(t, "numbers", s, m, r, api.OK)
		}
	}
	high := [5]int64{topNum, topTick, topNum, topFloor, topNum}
	m = stepsTo(t, "the greatest", s, m, withNumbers(edits(nil), high), api.OK)
	m = stepsTo(t, "the least", s, m, withNumbers(edits(nil), [5]int64{4: 1}), api.OK)
	m = stepsTo(t, "again", s, m, withNumbers(edits(nil), [5]int64{4: 1}), api.OK)
	stepsTo(t, "a Seq and a Mark above Next and Seq", s, m, withNumbers(edits(nil, api.Entry{Part: hourPart(9), Seg: 99, Mark: 99, Rows: 9}), [5]int64{4: 1}), api.OK)
}

func TestStepOfRecordsThatAreNotRight(t *testing.T) {
	for _, entries := range [][]api.Entry{nil, ones(some()...)} {
		s, m := stateOf(t, entries...)
		for i, r := range wrongRecords() {
			for _, is := range []bool{false, true} {
				r.Snap = is
				stepsTo(t, "wrong record "+number(int64(i)), s, m, r, rightAs(r))
			}
		}
	}
}

// What Right tells comes ahead of what Apply does.
func TestStepTellsTheFirstOfTwoFaults(t *testing.T) {
	s, m := stateOf(t, ones(some()...)...)
	wrong := api.Entry{Part: hourPart(7)}
	for _, is := range []bool{false, true} {
		stepsTo(t, "Drop of what is not there, and a wrong Put", s, m, record(is, hours(7, 1), []api.Entry{wrong}), api.Malformed)
		stepsTo(t, "Put twice, and a wrong Put", s, m, record(is, nil, append(ones(hourPart(7), hourPart(7)), wrong)), api.Malformed)
		stepsTo(t, "Drop of what is not there, and a wrong Drop", s, m, record(is, []api.Part{hourPart(7), {}}, nil), api.Malformed)
		stepsTo(t, "Drop of what is not there, too many", s, m, record(is, hours(7, 1001), nil), api.Full)
		stepsTo(t, "Put twice, too many", s, m, record(is, nil, slices.Repeat(ones(hourPart(7)), 1001)), api.Full)
		stepsTo(t, "Drop of what is not there, and a wrong number", s, m, withNumbers(record(is, hours(7, 1), nil), [5]int64{}), api.Range)
		r := record(is, hours(7, 1), nil)
		r.Rules.Wal = 99
		stepsTo(t, "Drop of what is not there, and a wrong policy", s, m, r, api.Range)
		stepsTo(t, "Drop of what is not there, and Put twice", s, m, record(is, hours(7, 1), ones(hourPart(8), hourPart(8))), api.Unknown)
	}
}

// --- P2102: Apply's faults

func TestStepOfDropOfWhatIsNotThere(t *testing.T) {
	for _, entries := range [][]api.Entry{nil, ones(some()...)} {
		s, m := stateOf(t, entries...)
		for _, is := range []bool{false, true} {
			for _, p := range []api.Part{hourPart(7), hourPart(24), dayPart(0), dayPart(31), monthPart(0), hourPart(744)} {
				stepsTo(t, "Drop of "+name(p), s, m, record(is, []api.Part{p}, nil), api.Unknown)
				stepsTo(t, "Drop and Put of "+name(p), s, m, record(is, []api.Part{p}, ones(p)), api.Unknown)
				if len(entries) > 0 {
					stepsTo(t, "Drop of all, and "+name(p), s, m, record(is, append(some(), p), nil), api.Unknown)
				}
			}
		}
	}
}

func TestStepOfDropTwice(t *testing.T) {
	for _, p := range some() {
		s, m := stateOf(t, ones(some()...)...)
		for _, is := range []bool{false, true} {
			stepsTo(t, "twice "+name(p), s, m, record(is, []api.Part{p, p}, nil), api.Unknown)
			stepsTo(t, "all, and "+name(p), s, m, record(is, append(some(), p), ones(monthPart(5))), api.Unknown)
		}
		m = stepsTo(t, "once "+name(p), s, m, edits([]api.Part{p}), api.OK)
		stepsTo(t, "once more "+name(p), s, m, edits([]api.Part{p}), api.Unknown)
	}
}

// With Snap nothing is there ahead of it, so that nothing can be dropped.
func TestStepOfSnapWithDrops(t *testing.T) {
	for _, p := range some() {
		s, m := stateOf(t, ones(some()...)...)
		stepsTo(t, "Snap with Drop of "+name(p), s, m, record(true, []api.Part{p}, nil), api.Unknown)
		stepsTo(t, "Snap with Drop and Put of "+name(p), s, m, record(true, []api.Part{p}, ones(p)), api.Unknown)
		stepsTo(t, "Snap with Drop of all", s, m, record(true, some(), ones(some()...)), api.Unknown)
	}
}

func TestStepOfPutOfWhatMeets(t *testing.T) {
	for _, c := range []struct{ there, put api.Part }{
		{hourPart(5), hourPart(5)}, {hourPart(5), dayPart(0)}, {hourPart(5), monthPart(0)}, {dayPart(1), hourPart(24)}, {dayPart(1), hourPart(47)},
		{dayPart(1), dayPart(1)}, {dayPart(1), monthPart(0)}, {monthPart(1), hourPart(744)}, {monthPart(1), hourPart(1415)}, {monthPart(1), dayPart(40)}, {monthPart(1), monthPart(1)},
	} {
		s, m := stateOf(t, one(c.there), one(monthPart(9)))
		what := name(c.put) + " upon " + name(c.there)
		stepsTo(t, what, s, m, edits(nil, one(c.put)), api.Twice)
		stepsTo(t, what+", behind others", s, m, edits(nil, ones(monthPart(7), monthPart(8), c.put)...), api.Twice)
		stepsTo(t, what+", another one dropped", s, m, edits([]api.Part{monthPart(9)}, one(c.put)), api.Twice)
		stepsTo(t, what+", both put", s, m, edits([]api.Part{c.there}, one(c.there), one(c.put)), api.Twice)
		stepsTo(t, what+", both put with Snap", s, m, snap(one(c.there), one(c.put)), api.Twice)
		stepsTo(t, what+", both put with Snap, and one between", s, m, snap(one(c.there), one(monthPart(8)), one(c.put)), api.Twice)
		m = stepsTo(t, what+", with Snap", s, m, snap(one(c.put)), api.OK)
		stepsTo(t, what+", in its place", s, m, edits([]api.Part{c.put}, one(c.there)), api.OK)
	}
}

// --- P2102: all at once

// lists: all lists of at most two of these.
func lists[T any](l ...T) [][]T {
	all := [][]T{nil}
	for _, a := range l {
		all = append(all, []T{a})
		for _, b := range l {
			all = append(all, []T{a, b})
		}
	}
	return all
}

func TestStepOfEachSmallRecordOnEachSmallState(t *testing.T) {
	parts := []api.Part{hourPart(5), hourPart(24), dayPart(0), dayPart(1), monthPart(0)}
	var states [][]api.Entry
	for _, l := range lists(ones(parts...)...) {
		if _, fault := (model{}).step(snap(l...)); fault == api.OK {
			states = append(states, l)
		}
	}
	same(t, "states", len(states), 14)
	for _, there := range states {
		for _, drop := range lists(parts...) {
			for _, put := range lists(ones(parts...)...) {
				for _, is := range []bool{false, true} {
					s, m := stateOf(t, there...)
					steps(t, "small", s, m, record(is, drop, put))
				}
				if t.Failed() {
					t.Fatalf("there %v: Drop %v, Put %v", there, drop, put)
				}
			}
		}
	}
}

// thrown: a record without a pattern, that drops mostly what is there, and puts mostly what there is room for.
func thrown(m model, i int64, throw func(int) int) Record {
	var drop []api.Part
	for _, e := range m.entries {
		if throw(4) == 0 {
			drop = append(drop, e.Part)
		}
	}
	if throw(12) == 0 {
		drop = append(drop, hourPart(int64(throw(100))))
	}
	var put []api.Entry
	for range throw(4) {
		p := []api.Part{hourPart(int64(throw(3000))), dayPart(int64(throw(125))), monthPart(int64(throw(5)))}[min(2, throw(6)*throw(2))]
		e := one(p)
		e.Seg, e.Mark = i+1, int64(throw(1000))
		e.Cold = p.Tier == 3 && throw(2) == 0
		put = append(put, e)
	}
	r := numbered(record(throw(9) == 0, drop, put), i+1)
	if r.Snap && throw(5) > 0 {
		r.Edit.Drop = nil
	}
	if throw(20) == 0 {
		r.Next = 0
	}
	return r
}

func TestStepsWithoutAPattern(t *testing.T) {
	told := map[api.Fault]int{}
	for seed := range uint64(12) {
		throw := stir(seed)
		s, m := stateOf(t)
		for i := range int64(600) {
			var fault api.Fault
			m, fault = steps(t, "step "+number(i), s, m, thrown(m, i, throw))
			told[fault]++
			if t.Failed() {
				t.Fatalf("row %d, step %d", seed, i)
			}
		}
	}
	for _, fault := range []api.Fault{api.OK, api.Range, api.Unknown, api.Twice} {
		same(t, "whether it was told often", told[fault] > 100, true)
	}
}

// --- P2102: what is shared, and what not

// Parts are changed: whoever has the state's catalog sees it, and its copies stay as they were.
func TestStepChangesPartsWhereTheyAre(t *testing.T) {
	s, _ := stateOf(t, ones(some()...)...)
	parts, kept := s.Parts, s.Parts.Copy()
	for i, r := range []Record{edits(some()[:2], one(monthPart(3))), snap(one(dayPart(4))), edits(nil, one(hourPart(5)))} {
		same(t, "Step's fault", Step(s, r), api.OK)
		same(t, "whether it is the same catalog", s.Parts == parts, true)
		same(t, "how many it has", parts.Len(), []int{11, 1, 2}[i])
		tells(t, "its copy", slices.Collect(kept.All()), ones(some()...)...)
	}
}

func TestStepKeepsNothingOfARecord(t *testing.T) {
	for _, is := range []bool{false, true} {
		s, m := stateOf(t)
		r := record(is, nil, ones(some()...))
		m = stepsTo(t, "Step", s, m, r, api.OK)
		same(t, "Step's fault", Step(s, r), map[bool]api.Fault{false: api.Twice, true: api.OK}[is])
		for i := range r.Edit.Put {
			r.Edit.Put[i] = one(hourPart(9000))
		}
		holds(t, "the record changed", s, m)
	}
}

// A record that tells of what a state has, and a state that goes on, are two things.
func TestStepOfARecordThatWasSnapped(t *testing.T) {
	s, m := stateOf(t, ones(some()...)...)
	r := Snap(s)
	stepsTo(t, "Snap's record on its own state", s, m, r, api.OK)
	other, n := stateOf(t, one(monthPart(0)))
	n = stepsTo(t, "and on another one", other, n, r, api.OK)
	stepsTo(t, "the other one goes on", other, n, edits(some()), api.OK)
	holds(t, "the first one", s, m)
}
