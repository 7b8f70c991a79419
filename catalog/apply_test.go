package catalog

import (
	"slices"
	"testing"

	"ossuary/api"
)

// --- P2001: Apply

func TestExample(t *testing.T) {
	c := of(t, one(hourPart(5)))
	applies(t, "a day upon its hour", c, Edit{Put: ones(dayPart(0))}, api.Twice)
	holds(t, "behind it", c, one(hourPart(5)))
	applies(t, "a day for its hour", c, Edit{Drop: []api.Part{hourPart(5)}, Put: ones(dayPart(0))}, api.OK)
	holds(t, "behind it", c, one(dayPart(0)))
}

func TestApplyOfAnEditWithNothingInIt(t *testing.T) {
	for _, e := range []Edit{{}, {Drop: []api.Part{}, Put: []api.Entry{}}, {Drop: []api.Part{}}, {Put: []api.Entry{}}} {
		c := New()
		applies(t, "nothing, to nothing", c, e, api.OK)
		holds(t, "behind it", c)
		c = of(t, ones(some()...)...)
		applies(t, "nothing", c, e, api.OK)
		holds(t, "behind it", c, ones(some()...)...)
	}
}

// Whatever the order in which they are put, they are told by their hours.
func TestApplyOfPutAlone(t *testing.T) {
	want := ones(some()...)
	forth := New()
	for i, e := range want {
		applies(t, "Put of "+name(e.Part), forth, Edit{Put: []api.Entry{e}}, api.OK)
		holds(t, "behind it", forth, want[:i+1]...)
	}
	back := New()
	for i, e := range slices.Backward(want) {
		applies(t, "Put of "+name(e.Part), back, Edit{Put: []api.Entry{e}}, api.OK)
		holds(t, "behind it", back, want[i:]...)
	}
	for turn := range want {
		turned := slices.Concat(want[turn:], want[:turn])
		holds(t, "all at once", of(t, turned...), want...)
		slices.Reverse(turned)
		holds(t, "all at once, the other way", of(t, turned...), want...)
	}
}

func TestApplyOfDropAlone(t *testing.T) {
	all := some()
	for i := range all {
		c := of(t, ones(all...)...)
		applies(t, "Drop of "+name(all[i]), c, Edit{Drop: []api.Part{all[i]}}, api.OK)
		holds(t, "behind it", c, ones(slices.Concat(all[:i], all[i+1:])...)...)

		c = of(t, ones(all...)...)
		applies(t, "Drop of the first ones", c, Edit{Drop: all[:i]}, api.OK)
		holds(t, "behind it", c, ones(all[i:]...)...)

		c = of(t, ones(all...)...)
		turned := slices.Concat(all[i:], all[:i])
		applies(t, "Drop of all", c, Edit{Drop: turned}, api.OK)
		holds(t, "behind it", c)
		applies(t, "Put of all again", c, Edit{Put: ones(turned...)}, api.OK)
		holds(t, "behind it", c, ones(all...)...)
	}
}

func TestApplyOfDropAndPut(t *testing.T) {
	c := of(t, ones(hourPart(5), hourPart(24), hourPart(30), dayPart(2), monthPart(1))...)
	applies(t, "hours that go into a day, and another one", c, Edit{Drop: []api.Part{hourPart(30), hourPart(24)}, Put: ones(hourPart(72), dayPart(1))}, api.OK)
	holds(t, "behind it", c, ones(hourPart(5), dayPart(1), dayPart(2), hourPart(72), monthPart(1))...)
	applies(t, "days and hours that go into a month", c, Edit{Drop: []api.Part{dayPart(2), hourPart(5), dayPart(1), hourPart(72)}, Put: ones(monthPart(0))}, api.OK)
	holds(t, "behind it", c, ones(monthPart(0), monthPart(1))...)
	applies(t, "a month that gets cold", c, Edit{Drop: []api.Part{monthPart(0)}, Put: []api.Entry{cold(0)}}, api.OK)
	holds(t, "behind it", c, cold(0), one(monthPart(1)))
	applies(t, "a month that goes, and hours of it", c, Edit{Drop: []api.Part{monthPart(1)}, Put: ones(hourPart(1415), hourPart(744))}, api.OK)
	holds(t, "behind it", c, cold(0), one(hourPart(744)), one(hourPart(1415)))
}

// Of each partition, what is dropped makes room for another entry of it.
func TestApplyOfPutInThePlaceOfWhatIsDropped(t *testing.T) {
	all := some()
	for i, p := range all {
		want := ones(all...)
		want[i] = other(p)
		c := of(t, ones(all...)...)
		applies(t, "another "+name(p), c, Edit{Drop: []api.Part{p}, Put: []api.Entry{other(p)}}, api.OK)
		holds(t, "behind it", c, want...)
		applies(t, "the same one again", c, Edit{Drop: []api.Part{p}, Put: []api.Entry{other(p)}}, api.OK)
		holds(t, "behind it", c, want...)
	}
}

// fails fails the test where an edit of c has not that fault, or something has changed behind it.
func fails(t *testing.T, what string, c *Catalog, e Edit, want api.Fault) {
	t.Helper()
	had := told(c.All(), -1)
	applies(t, what, c, e, want)
	holds(t, what+", behind it", c, had...)
}

func TestApplyOfDropOfWhatIsNotThere(t *testing.T) {
	for _, c := range []*Catalog{New(), of(t, ones(some()...)...)} {
		fails(t, "Drop of an hour", c, Edit{Drop: []api.Part{hourPart(7)}}, api.Unknown)
		fails(t, "Drop of a day", c, Edit{Drop: []api.Part{dayPart(0)}}, api.Unknown)
		fails(t, "Drop of a month", c, Edit{Drop: []api.Part{monthPart(0)}}, api.Unknown)
		fails(t, "Drop of one that comes only then", c, Edit{Drop: []api.Part{hourPart(7)}, Put: ones(hourPart(7))}, api.Unknown)
		for _, p := range wrongParts() {
			fails(t, "Drop of "+name(p), c, Edit{Drop: []api.Part{p}}, api.Unknown)
		}
	}
}

func TestApplyOfDropOfOnePartitionTwice(t *testing.T) {
	for _, p := range some() {
		c := of(t, ones(some()...)...)
		fails(t, "Drop of "+name(p)+" twice", c, Edit{Drop: []api.Part{p, p}}, api.Unknown)
		fails(t, "with others between", c, Edit{Drop: append(some(), p)}, api.Unknown)
		fails(t, "with a Put of it", c, Edit{Drop: []api.Part{p, p}, Put: ones(p)}, api.Unknown)
		applies(t, "once", c, Edit{Drop: []api.Part{p}}, api.OK)
		fails(t, "once more", c, Edit{Drop: []api.Part{p}}, api.Unknown)
	}
}

// The first hour alone does not tell a partition, nor do its hours.
func TestApplyOfDropOfAnotherTier(t *testing.T) {
	alike := []api.Part{hourPart(744), dayPart(31), monthPart(1)}
	for _, there := range alike {
		for _, p := range alike {
			c := of(t, one(there))
			if p != there {
				fails(t, "Drop of "+name(p)+" where "+name(there)+" is", c, Edit{Drop: []api.Part{p}}, api.Unknown)
				fails(t, "that, and a Put", c, Edit{Drop: []api.Part{p}, Put: ones(p)}, api.Unknown)
			}
		}
	}
	c := of(t, one(dayPart(1)))
	for _, p := range []api.Part{hourPart(23), hourPart(25), hourPart(47), hourPart(1), dayPart(0), dayPart(2), monthPart(0), monthPart(1)} {
		fails(t, "Drop of "+name(p)+" where day 1 is", c, Edit{Drop: []api.Part{p}}, api.Unknown)
	}
}

func TestApplyOfPutThatMeetsOneThatIsThere(t *testing.T) {
	for _, c := range []struct {
		there, put api.Part
	}{
		{hourPart(5), hourPart(5)}, {dayPart(1), dayPart(1)}, {monthPart(1), monthPart(1)}, // the same one again
		{hourPart(24), dayPart(1)}, {hourPart(25), dayPart(1)}, {hourPart(47), dayPart(1)}, // a day upon its hours
		{hourPart(744), monthPart(1)}, {hourPart(1000), monthPart(1)}, {hourPart(1415), monthPart(1)}, // a month upon them
		{dayPart(31), monthPart(1)}, {dayPart(40), monthPart(1)}, {dayPart(58), monthPart(1)}, // a month upon its days
		{hourPart(0), dayPart(0)}, {hourPart(0), monthPart(0)}, {dayPart(0), monthPart(0)},
		{hourPart(lastHour), dayPart(lastDay)}, {hourPart(lastHour), monthPart(lastMonth)}, {dayPart(lastDay), monthPart(lastMonth)}, {hourPart(lastHour), hourPart(lastHour)},
	} {
		around := ones(hourPart(3000), dayPart(200))
		fails(t, name(c.put)+" upon "+name(c.there), of(t, append(around, one(c.there))...), Edit{Put: ones(c.put)}, api.Twice)
		fails(t, name(c.there)+" upon "+name(c.put), of(t, append(around, one(c.put))...), Edit{Put: ones(c.there)}, api.Twice)
		fails(t, "another "+name(c.there), of(t, one(c.there)), Edit{Put: []api.Entry{other(c.there)}}, api.Twice)
		// neither is there, but one is put ahead of the other
		fails(t, name(c.put)+" behind "+name(c.there), of(t, around...), Edit{Put: ones(c.there, c.put)}, api.Twice)
		fails(t, name(c.there)+" behind "+name(c.put), of(t, around...), Edit{Put: ones(c.put, hourPart(10000), c.there)}, api.Twice)
		// one is dropped, but the other is put twice
		fails(t, name(c.put)+" for "+name(c.there)+", twice", of(t, one(c.there)), Edit{Drop: []api.Part{c.there}, Put: ones(c.put, c.put)}, api.Twice)
	}
}

func TestApplyOfNeighbours(t *testing.T) {
	for _, l := range [][]api.Part{
		{hourPart(4), hourPart(5), hourPart(6)},
		{hourPart(23), dayPart(1), hourPart(48)},
		{hourPart(743), monthPart(1), hourPart(1416)},
		{dayPart(30), monthPart(1), dayPart(59)},
		{dayPart(0), dayPart(1), dayPart(2)},
		{monthPart(0), monthPart(1), monthPart(2)},
		{dayPart(30), hourPart(744), dayPart(32)},
		{hourPart(0), hourPart(1), dayPart(1)},
		{dayPart(lastDay - 1), hourPart(16777200), hourPart(lastHour)},
		{hourPart(16777199), dayPart(lastDay)},
		{monthPart(lastMonth - 1), dayPart(699043), dayPart(lastDay)},
		{hourPart(16777031), monthPart(lastMonth)},
	} {
		holds(t, "neighbours", of(t, ones(l...)...), ones(l...)...)
		for i := range l { // whichever of them comes last
			rest := slices.Concat(l[:i], l[i+1:])
			c := of(t, ones(rest...)...)
			applies(t, name(l[i])+" beside "+name(rest[0]), c, Edit{Put: ones(l[i])}, api.OK)
			holds(t, "behind it", c, ones(l...)...)
		}
	}
}

// What is between two hours of a day or a month does not matter, nor does one that only begins or ends beside it.
func TestApplyOfADayWhoseHoursAreNotItsFirst(t *testing.T) {
	for hour := int64(0); hour < 72; hour++ {
		c := of(t, one(hourPart(hour)), one(hourPart(100)))
		e := Edit{Put: ones(dayPart(1))}
		if hour >= 24 && hour < 48 {
			fails(t, "a day upon "+hourName(hour), c, e, api.Twice)
			continue
		}
		applies(t, "a day beside "+hourName(hour), c, e, api.OK)
		same(t, "how many", c.Len(), 3)
	}
	for hour := int64(700); hour < 1460; hour++ {
		c := of(t, one(monthPart(1)))
		want := api.Fault(api.OK)
		if hour >= 744 && hour < 1416 {
			want = api.Twice
		}
		applies(t, hourName(hour)+" upon a month", c, Edit{Put: ones(hourPart(hour))}, want)
	}
}

func TestApplyOfPutOfWhatIsNotRight(t *testing.T) {
	for _, c := range []*Catalog{New(), of(t, ones(some()...)...)} {
		for _, p := range []api.Part{hourPart(7), dayPart(3), monthPart(2), monthPart(lastMonth - 1)} {
			for _, e := range wrongEntries(p) {
				fails(t, "Put of a wrong "+name(p), c, Edit{Put: []api.Entry{e}}, api.Malformed)
			}
		}
		for _, p := range wrongParts() {
			fails(t, "Put of "+name(p), c, Edit{Put: []api.Entry{{Part: p, Seg: 1, Rows: 1}}}, api.Malformed)
		}
		fails(t, "Put of the zero entry", c, Edit{Put: []api.Entry{{}}}, api.Malformed)
	}
}

// An entry that is not right and would meet one that is there: the chapter names Malformed first.
func TestApplyOfPutThatIsWrongAndMeets(t *testing.T) {
	for _, p := range some() {
		c := of(t, ones(some()...)...)
		for _, e := range wrongEntries(p) {
			fails(t, "a wrong "+name(p)+" upon it", c, Edit{Put: []api.Entry{e}}, api.Malformed)
			fails(t, "a wrong one for it", c, Edit{Drop: []api.Part{p}, Put: []api.Entry{e}}, api.Malformed)
		}
	}
}

func TestApplyOfEditsWithTwoFaults(t *testing.T) {
	wrong := api.Entry{Part: hourPart(200), Seg: 1}
	there, gone, free := dayPart(1), dayPart(2), dayPart(3)
	for _, c := range []struct {
		what string
		e    Edit
		want api.Fault
	}{
		{"Unknown, Malformed", Edit{Drop: []api.Part{gone}, Put: []api.Entry{wrong}}, api.Unknown},
		{"Unknown, Twice", Edit{Drop: []api.Part{gone}, Put: ones(there)}, api.Unknown},
		{"Unknown behind a Drop, Malformed", Edit{Drop: []api.Part{there, gone}, Put: []api.Entry{wrong}}, api.Unknown},
		{"Unknown, Twice by the edit's own", Edit{Drop: []api.Part{gone}, Put: ones(free, free)}, api.Unknown},
		{"Malformed, Twice", Edit{Put: []api.Entry{wrong, one(there)}}, api.Malformed},
		{"Twice, Malformed", Edit{Put: []api.Entry{one(there), wrong}}, api.Twice},
		{"right, Malformed, Twice", Edit{Put: []api.Entry{one(free), wrong, one(free)}}, api.Malformed},
		{"right, Twice, Malformed", Edit{Put: []api.Entry{one(free), one(free), wrong}}, api.Twice},
		{"Drop, Malformed, Twice", Edit{Drop: []api.Part{there}, Put: []api.Entry{one(there), wrong, one(there)}}, api.Malformed},
		{"Drop, Twice, Malformed", Edit{Drop: []api.Part{there}, Put: []api.Entry{one(there), one(there), wrong}}, api.Twice},
		{"Drop, Malformed, right", Edit{Drop: []api.Part{there}, Put: []api.Entry{wrong, one(free)}}, api.Malformed},
		{"Malformed twice", Edit{Put: []api.Entry{wrong, wrong}}, api.Malformed},
		{"Unknown twice", Edit{Drop: []api.Part{gone, gone}}, api.Unknown},
	} {
		fails(t, c.what, of(t, one(there), one(hourPart(5))), c.e, c.want)
	}
}

// Whatever stands ahead of a fault, and however much: nothing has changed.
func TestApplyOfFaultsBehindWhatIsRight(t *testing.T) {
	all := some()
	wrong := api.Entry{Part: hourPart(100), Seg: 1}
	for n := range len(all) + 1 {
		c := of(t, ones(all...)...)
		fails(t, "drops, then Unknown", c, Edit{Drop: append(slices.Clone(all[:n]), dayPart(100))}, api.Unknown)
		fails(t, "drops, then Malformed", c, Edit{Drop: all[:n], Put: []api.Entry{wrong}}, api.Malformed)
		fails(t, "drops, puts, then Malformed", c, Edit{Drop: all[:n], Put: append(ones(all[:n]...), wrong)}, api.Malformed)
		if n > 0 {
			fails(t, "drops, puts, then Twice", c, Edit{Drop: all[:n], Put: append(ones(all[:n]...), one(all[0]))}, api.Twice)
		}
		if n < len(all) {
			fails(t, "drops, then Twice", c, Edit{Drop: all[:n], Put: ones(all[n])}, api.Twice)
			fails(t, "drops, others, then Twice", c, Edit{Drop: all[:n], Put: ones(dayPart(100), hourPart(100), all[n])}, api.Twice)
		}
		applies(t, "drops and puts without a fault", c, Edit{Drop: all[:n], Put: append(ones(all[:n]...), one(dayPart(100)))}, api.OK)
		same(t, "how many", c.Len(), len(all)+1)
	}
}

// --- Lists that are handed in

func TestApplyLeavesItsListsAsTheyAre(t *testing.T) {
	for _, fault := range []api.Fault{api.OK, api.Unknown, api.Malformed, api.Twice} {
		drop := make([]api.Part, 2, 5)
		copy(drop[:5], []api.Part{dayPart(1), hourPart(5), hourPart(72), hourPart(0), {Tier: 9, Index: 9}})
		put := make([]api.Entry, 2, 4)
		copy(put[:4], []api.Entry{one(dayPart(0)), other(dayPart(1)), one(hourPart(500)), {Seg: 77}})
		switch fault {
		case api.OK:
			drop = append(drop[:2:5], hourPart(6), hourPart(0))
		case api.Unknown:
			drop[0] = dayPart(100)
		case api.Malformed:
			put[0].Rows = 0
		}
		drops, puts := slices.Clone(drop[:5]), slices.Clone(put[:4])
		applies(t, "an edit", of(t, ones(some()...)...), Edit{Drop: drop, Put: put}, fault)
		tells(t, "Drop and its spare room", drop[:5], drops...)
		tells(t, "Put and its spare room", put[:4], puts...)
	}
}

func TestListsHandedInThatAreChangedBehindIt(t *testing.T) {
	c := New()
	put := ones(some()...)
	applies(t, "Put", c, Edit{Put: put}, api.OK)
	clear(put)
	holds(t, "behind it", c, ones(some()...)...)
	drop := some()[:3]
	applies(t, "Drop", c, Edit{Drop: drop}, api.OK)
	for i := range drop {
		drop[i] = some()[5]
	}
	holds(t, "behind it", c, ones(some()[3:]...)...)
	put[0], put[1] = one(hourPart(1)), one(hourPart(2))
	applies(t, "the same list again", c, Edit{Put: put[:2]}, api.OK)
	holds(t, "behind it", c, append(ones(hourPart(1), hourPart(2)), ones(some()[3:]...)...)...)
}
