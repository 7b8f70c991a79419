package catalog

import (
	"slices"
	"strconv"
	"testing"

	"ossuary/api"
)

// edges: hours just ahead of, at both ends of and just behind the spans of parts, and far away; rising.
func edges(parts ...api.Part) []int64 {
	l := []int64{least, least + 1, -1 << 32, -25, -24, -1, 0, 1, 1 << 25, 1 << 32, greatest - 1, greatest}
	for _, p := range parts {
		from, to := spanAs(p)
		l = append(l, from-1, from, from+1, (from+to)/2, to-1, to, to+1, from+1<<32)
	}
	slices.Sort(l)
	return slices.Compact(l)
}

// --- P2002: At

func TestAt(t *testing.T) {
	c := of(t, ones(hourPart(5), dayPart(1), monthPart(1))...)
	for hour := int64(-50); hour < 1500; hour++ {
		want := found{}
		switch {
		case hour == 5:
			want = found{one(hourPart(5)), true}
		case hour >= 24 && hour < 48:
			want = found{one(dayPart(1)), true}
		case hour >= 744 && hour < 1416:
			want = found{one(monthPart(1)), true}
		}
		same(t, hourName(hour), atOf(c, hour), want)
	}
}

func TestAtByTheChaptersWords(t *testing.T) {
	for _, parts := range [][]api.Part{nil, some(), some()[:3], some()[5:]} {
		m := model(ones(parts...))
		c := of(t, m...)
		for _, hour := range edges(some()...) {
			same(t, hourName(hour), atOf(c, hour), m.at(hour))
		}
	}
}

// Below the first entry, with another one at hour 0 or without.
func TestAtOfHoursBelowZero(t *testing.T) {
	for _, p := range []api.Part{hourPart(0), dayPart(0), monthPart(0), hourPart(1), dayPart(1)} {
		c := of(t, one(p))
		for _, hour := range []int64{-1, -2, -23, -24, -744, -1 << 24, -1<<32 + 1, -1 << 32, -1 << 62, least + 1, least} {
			same(t, hourName(hour), atOf(c, hour), found{})
		}
	}
}

// The last day and the last month have hours beyond MaxHour, too.
func TestAtOfHoursBeyondMaxHour(t *testing.T) {
	for _, p := range []api.Part{hourPart(lastHour), dayPart(lastDay), monthPart(lastMonth)} {
		c := of(t, one(p))
		from, to := spanAs(p)
		for hour := int64(lastHour - 300); hour < lastHour+700; hour++ {
			want := found{}
			if hour >= from && hour < to {
				want = found{one(p), true}
			}
			same(t, hourName(hour)+" in "+name(p), atOf(c, hour), want)
		}
		same(t, "far behind", atOf(c, greatest), found{})
	}
	same(t, "the last hour of the last day", atOf(of(t, one(dayPart(lastDay))), lastHour+7), found{one(dayPart(lastDay)), true})
	same(t, "the last hour of the last month", atOf(of(t, one(monthPart(lastMonth))), lastHour+559), found{one(monthPart(lastMonth)), true})
}

// --- P2002: Get

func TestGet(t *testing.T) {
	c := of(t, ones(some()...)...)
	for _, p := range some() {
		same(t, name(p), getOf(c, p), found{one(p), true})
		same(t, name(p)+", again", getOf(c, p), found{one(p), true})
		same(t, name(p)+", where nothing is", getOf(New(), p), found{})
	}
}

func TestGetTellsAllFields(t *testing.T) {
	for _, e := range []api.Entry{
		{Part: hourPart(9), Seg: 1, Mark: 0, Rows: 1},
		{Part: dayPart(9), Seg: mostNum, Mark: mostNum, Rows: mostNum},
		{Part: monthPart(9), Seg: 2, Mark: 3, Rows: 4, Cold: true},
		{Part: monthPart(10), Seg: 2, Mark: 3, Rows: 4},
	} {
		c := of(t, e, one(hourPart(1)))
		from, _ := spanAs(e.Part)
		same(t, "Get", getOf(c, e.Part), found{e, true})
		same(t, "At", atOf(c, from), found{e, true})
		tells(t, "Over", c.Over(from, from+1), e)
		tells(t, "All", told(c.All(), -1), one(hourPart(1)), e)
	}
}

// A partition that meets one that is there is another one for all that.
func TestGetOfAnotherPartition(t *testing.T) {
	parts := append(some(), hourPart(24), hourPart(25), hourPart(47), dayPart(0), dayPart(3), dayPart(31), dayPart(60), hourPart(744), hourPart(1415), hourPart(720), monthPart(0), monthPart(2), hourPart(lastHour), hourPart(16777200), monthPart(lastMonth), hourPart(1), monthPart(5), dayPart(5), hourPart(30), dayPart(72), monthPart(59))
	for _, p := range parts {
		want := found{}
		if slices.Contains(some(), p) {
			want = found{one(p), true}
		}
		same(t, name(p), getOf(of(t, ones(some()...)...), p), want)
	}
	for _, there := range parts {
		c := of(t, one(there))
		for _, p := range parts {
			want := found{}
			if p == there {
				want = found{one(p), true}
			}
			same(t, name(p)+" where "+name(there)+" is", getOf(c, p), want)
		}
	}
}

// Their span is said to be from 0 to 0, but hour 0 is not theirs.
func TestGetOfWhatIsNotRight(t *testing.T) {
	for _, c := range []*Catalog{New(), of(t, ones(some()...)...), of(t, one(hourPart(0))), of(t, one(dayPart(0))), of(t, one(monthPart(0)))} {
		for _, p := range wrongParts() {
			same(t, name(p), getOf(c, p), found{})
		}
	}
}

// --- P2002: Over

func TestOver(t *testing.T) {
	hour, day, month := one(hourPart(5)), one(dayPart(1)), one(monthPart(1))
	c := of(t, month, hour, day)
	for _, r := range []struct {
		from, to int64
		want     []api.Entry
	}{
		// from one hour to the next
		{4, 5, nil}, {5, 6, []api.Entry{hour}}, {6, 7, nil}, {23, 24, nil}, {24, 25, []api.Entry{day}}, {30, 31, []api.Entry{day}}, {47, 48, []api.Entry{day}}, {48, 49, nil},
		{743, 744, nil}, {744, 745, []api.Entry{month}}, {1415, 1416, []api.Entry{month}}, {1416, 1417, nil},
		// within an entry, from or to its ends, over it
		{30, 40, []api.Entry{day}}, {24, 48, []api.Entry{day}}, {23, 48, []api.Entry{day}}, {24, 49, []api.Entry{day}}, {23, 49, []api.Entry{day}}, {6, 744, []api.Entry{day}},
		// into it, out of it
		{10, 25, []api.Entry{day}}, {47, 100, []api.Entry{day}}, {10, 24, nil}, {48, 100, nil}, {48, 744, nil}, {48, 745, []api.Entry{month}},
		// several
		{5, 25, []api.Entry{hour, day}}, {5, 24, []api.Entry{hour}}, {6, 25, []api.Entry{day}}, {47, 745, []api.Entry{day, month}}, {48, 745, []api.Entry{month}}, {47, 744, []api.Entry{day}},
		{0, 744, []api.Entry{hour, day}}, {5, 745, []api.Entry{hour, day, month}}, {0, 2000, []api.Entry{hour, day, month}},
		// where from is to, or above it
		{5, 5, nil}, {30, 30, nil}, {24, 24, nil}, {48, 48, nil}, {0, 0, nil}, {1000, 1000, nil}, {6, 5, nil}, {40, 30, nil}, {47, 24, nil}, {48, 24, nil}, {48, 5, nil}, {2000, 0, nil}, {1000, 30, nil}, {30, 6, nil}, {1000, 25, nil}, {greatest, least, nil}, {0, least, nil}, {greatest, 0, nil},
		// from below 0, and at the ends of the type
		{-5, 5, nil}, {-5, 6, []api.Entry{hour}}, {-5, 0, nil}, {-5, -1, nil}, {-1, 1, nil}, {least, 0, nil}, {least, least, nil}, {least, least + 1, nil}, {least, 6, []api.Entry{hour}}, {least, 25, []api.Entry{hour, day}}, {least, 24, []api.Entry{hour}},
		{least, greatest, []api.Entry{hour, day, month}}, {0, greatest, []api.Entry{hour, day, month}}, {47, greatest, []api.Entry{day, month}}, {48, greatest, []api.Entry{month}}, {1415, greatest, []api.Entry{month}}, {1416, greatest, nil}, {greatest - 1, greatest, nil}, {greatest, greatest, nil},
	} {
		tells(t, "from "+strconv.FormatInt(r.from, 10)+" to "+strconv.FormatInt(r.to, 10), c.Over(r.from, r.to), r.want...)
	}
}

func TestOverByTheChaptersWords(t *testing.T) {
	for _, parts := range [][]api.Part{nil, some(), some()[:1], some()[2:7], some()[6:]} {
		m := model(ones(parts...))
		c := of(t, m...)
		hours := edges(some()...)
		for _, from := range hours {
			for _, to := range hours {
				if got, want := c.Over(from, to), m.over(from, to); !slices.Equal(got, want) {
					t.Errorf("from %d to %d: %v, not %v", from, to, got, want)
				}
			}
		}
	}
}

func TestOverOfEachTwoHours(t *testing.T) {
	m := model(ones(hourPart(0), hourPart(1), hourPart(22), dayPart(1), hourPart(48), hourPart(50)))
	c := of(t, m...)
	for from := int64(-4); from < 56; from++ {
		for to := int64(-4); to < 56; to++ {
			if got, want := c.Over(from, to), m.over(from, to); !slices.Equal(got, want) {
				t.Errorf("from %d to %d: %v, not %v", from, to, got, want)
			}
		}
	}
}

func TestOverOfHoursBeyondMaxHour(t *testing.T) {
	for _, p := range []api.Part{hourPart(lastHour), dayPart(lastDay), monthPart(lastMonth)} {
		m := model{one(p), one(hourPart(7))}
		c := of(t, m...)
		for _, from := range []int64{lastHour - 1, lastHour, lastHour + 1, lastHour + 7, lastHour + 8, lastHour + 559, lastHour + 560, greatest - 1} {
			for _, to := range []int64{lastHour, lastHour + 1, lastHour + 2, lastHour + 8, lastHour + 560, lastHour + 561, greatest} {
				tells(t, name(p)+" from "+hourName(from)+" to "+hourName(to), c.Over(from, to), m.over(from, to)...)
			}
		}
	}
	tells(t, "the last day, behind MaxHour", of(t, one(dayPart(lastDay))).Over(lastHour+1, greatest), one(dayPart(lastDay)))
}

// --- P2002: All

func TestAllAsFarAsItIsAsked(t *testing.T) {
	want := ones(some()...)
	c := of(t, want...)
	all := c.All()
	for most := range len(want) + 3 {
		tells(t, "All, left after "+strconv.Itoa(most), told(c.All(), most), want[:min(most, len(want))]...)
		tells(t, "the same All, again", told(all, most), want[:min(most, len(want))]...)
		tells(t, "the same All, to its end", told(all, -1), want...)
	}
	for range c.All() {
		for range c.All() {
			break
		}
		tells(t, "All, while All is asked", told(c.All(), -1), want...)
	}
	holds(t, "behind it", c, want...)
}

func TestAllOfNone(t *testing.T) {
	for _, c := range []*Catalog{nil, New(), {}} {
		tells(t, "All of none", told(c.All(), -1))
		tells(t, "All of none, left after one", told(c.All(), 1))
	}
}

// All tells what was there when it was asked for, whatever comes and goes then.
func TestAllWhileEntriesComeAndGo(t *testing.T) {
	want := ones(some()...)
	c := of(t, want...)
	all := c.All()
	var got []api.Entry
	for e := range all {
		got = append(got, e)
		applies(t, "Drop of what is told", c, Edit{Drop: []api.Part{e.Part}}, api.OK)
	}
	tells(t, "All, while all go", got, want...)
	tells(t, "the same All, again", told(all, -1), want...)
	holds(t, "behind it", c)
	applies(t, "Put", c, Edit{Put: ones(dayPart(2))}, api.OK)
	tells(t, "the same All, once more", told(all, -1), want...)
	holds(t, "behind it", c, one(dayPart(2)))
}

// --- P2002: Len, Segs

func TestLen(t *testing.T) {
	c := New()
	same(t, "Len of none", c.Len(), 0)
	for i := range int64(1000) {
		applies(t, "Put", c, Edit{Put: ones(hourPart(i * 7919 % 1000))}, api.OK)
		same(t, "Len", c.Len(), int(i)+1)
	}
	same(t, "Len of All", len(told(c.All(), -1)), 1000)
	for i := range int64(1000) {
		applies(t, "Drop", c, Edit{Drop: []api.Part{hourPart(i * 31 % 1000)}}, api.OK)
		same(t, "Len", c.Len(), 999-int(i))
	}
}

func TestSegsThatRiseInAnotherOrderThanTheHours(t *testing.T) {
	with := func(p api.Part, seg int64) api.Entry {
		e := one(p)
		e.Seg = seg
		return e
	}
	tells(t, "Segs of none", New().Segs())
	c := of(t, with(hourPart(1), 9), with(hourPart(2), 3), with(dayPart(1), mostNum), with(dayPart(2), 1), with(monthPart(1), 7))
	tells(t, "Segs", c.Segs(), 1, 3, 7, 9, mostNum)
	tells(t, "Segs, again", c.Segs(), 1, 3, 7, 9, mostNum)
	same(t, "the first one in All", told(c.All(), 1)[0].Seg, 9)
	c = of(t, with(hourPart(1), 5), with(hourPart(2), 3), with(hourPart(3), 5), with(dayPart(1), 3), with(dayPart(2), 4), with(monthPart(1), 5))
	tells(t, "Segs that come twice and more", c.Segs(), 3, 3, 4, 5, 5, 5)
	applies(t, "Drop of one of them", c, Edit{Drop: []api.Part{hourPart(2)}}, api.OK)
	tells(t, "Segs", c.Segs(), 3, 4, 5, 5, 5)
	same(t, "how many", len(c.Segs()), c.Len())
	asCold := cold(1)
	asCold.Seg = 2
	tells(t, "Segs, one of which is cold", of(t, asCold, with(hourPart(1), 5)).Segs(), 2, 5)
}

// --- P2002: Copy

func TestCopy(t *testing.T) {
	all := ones(some()...)
	holds(t, "a copy of none", New().Copy())
	c := of(t, all...)
	holds(t, "a copy", c.Copy(), all...)
	holds(t, "a copy's copy", c.Copy().Copy(), all...)
	same(t, "whether it is another one", c.Copy() != c, true)
}

func TestCopyWhenEitherIsChanged(t *testing.T) {
	all := ones(some()...)
	changes := []Edit{
		{Drop: []api.Part{dayPart(1)}},
		{Put: ones(dayPart(100))},
		{Drop: []api.Part{dayPart(1)}, Put: []api.Entry{other(dayPart(1))}},
		{Drop: some()},
	}
	for _, e := range changes {
		want, _ := model(all).apply(e)
		c := of(t, all...)
		d := c.Copy()
		applies(t, "a change of the copied", c, e, api.OK)
		holds(t, "the copied", c, want.all()...)
		holds(t, "its copy", d, all...)

		c = of(t, all...)
		d = c.Copy()
		applies(t, "a change of the copy", d, e, api.OK)
		holds(t, "the copy", d, want.all()...)
		holds(t, "the copied", c, all...)
		applies(t, "that change of the copied, too", c, e, api.OK)
		holds(t, "both alike", c, told(d.All(), -1)...)
	}
	c := New()
	d := c.Copy()
	applies(t, "Put into what was copied empty", c, Edit{Put: all}, api.OK)
	holds(t, "its copy", d)
	applies(t, "Put into the copy", d, Edit{Put: all[:2]}, api.OK)
	holds(t, "the copied", c, all...)
	holds(t, "the copy", d, all[:2]...)
}

// --- Lists that are handed out

func TestListsHandedOutThatAreChangedBehindIt(t *testing.T) {
	all := ones(some()...)
	c := of(t, all...)
	d := c.Copy()
	spoil := func(l []api.Entry) {
		clear(l)
		_ = append(l[:0], one(hourPart(9999)))
		_ = append(l, one(hourPart(9999)))
	}
	first, second := c.Over(least, greatest), c.Over(least, greatest)
	spoil(first)
	tells(t, "another list", second, all...)
	spoil(c.Over(24, 48))
	segs, others := c.Segs(), c.Segs()
	clear(segs)
	_ = append(segs, 77)
	tells(t, "other Segs", others, segsOf(all)...)
	holds(t, "behind it", c, all...)
	holds(t, "a copy", d, all...)

	kept, keptSegs := c.Over(0, 100), c.Segs()
	want := slices.Clone(kept)
	applies(t, "Drop of all", c, Edit{Drop: some()}, api.OK)
	tells(t, "a list from ahead of it", kept, want...)
	tells(t, "Segs from ahead of it", keptSegs, segsOf(all)...)
}

// --- What a nil catalog says, and one that nobody made

func TestNil(t *testing.T) {
	var c *Catalog
	for _, e := range []Edit{{}, {Put: ones(hourPart(5))}, {Drop: []api.Part{hourPart(5)}}, {Put: []api.Entry{{}}}, {Drop: []api.Part{{}}}} {
		applies(t, "Apply of nil", c, e, api.BadArg)
	}
	for _, hour := range edges(some()...) {
		same(t, "At of nil", atOf(c, hour), found{})
		tells(t, "Over of nil", c.Over(hour, greatest))
		tells(t, "Over of nil", c.Over(least, hour))
	}
	for _, p := range append(some(), wrongParts()...) {
		same(t, "Get of nil", getOf(c, p), found{})
	}
	same(t, "Len of nil", c.Len(), 0)
	tells(t, "Segs of nil", c.Segs())
	for range c.All() {
		t.Error("All of nil tells something")
	}
	if c.Copy() != nil {
		t.Error("Copy of nil is one")
	}
}

func TestZeroCatalog(t *testing.T) {
	var c Catalog
	holds(t, "as it is", &c)
	holds(t, "its copy", c.Copy())
	applies(t, "Put", &c, Edit{Put: ones(some()...)}, api.OK)
	holds(t, "behind it", &c, ones(some()...)...)
}
