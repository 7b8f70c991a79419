package catalog

import (
	"slices"
	"testing"

	"ossuary/api"
)

// --- P2003, and all calls together, by the chapter's words

// lawful fails the test where an hour is in two entries, or At tells another one than All does. The hours are rising.
func lawful(t *testing.T, c *Catalog, hours []int64) {
	t.Helper()
	entries := told(c.All(), -1)
	for i, e := range entries {
		if !rightAs(e) {
			t.Fatalf("%v is there, which is not right", e)
		}
		for _, f := range entries[i+1:] {
			if meetsAs(e.Part, f.Part) {
				t.Fatalf("%v and %v are both there", e, f)
			}
		}
	}
	for _, hour := range hours {
		in := model(entries).over(hour, hour+1)
		if len(in) > 1 {
			t.Fatalf("hour %d is in %v", hour, in)
		}
		at, is := c.At(hour)
		if is != (len(in) == 1) || is && at != in[0] {
			t.Fatalf("hour %d is in %v, At tells %v", hour, in, at)
		}
		if over := c.Over(hour, hour+1); !slices.Equal(over, in) {
			t.Fatalf("hour %d is in %v, Over tells %v", hour, in, over)
		}
	}
}

// alike fails the test where c does not tell what its model does.
func alike(t *testing.T, c *Catalog, m model, parts []api.Part, hours []int64) {
	t.Helper()
	want := m.all()
	if got := told(c.All(), -1); !slices.Equal(got, want) {
		t.Fatalf("All: %v, not %v", got, want)
	}
	if got := c.Segs(); c.Len() != len(want) || !slices.Equal(got, segsOf(want)) {
		t.Fatalf("Len %d, Segs %v, not %v", c.Len(), got, segsOf(want))
	}
	for _, p := range parts {
		if got := getOf(c, p); got != m.get(p) {
			t.Fatalf("Get of %v: %v, not %v", p, got, m.get(p))
		}
	}
	for i, hour := range hours {
		if got := atOf(c, hour); got != m.at(hour) {
			t.Fatalf("At of %d: %v, not %v", hour, got, m.at(hour))
		}
		to := hours[(i*7+3)%len(hours)]
		if got, want := c.Over(hour, to), m.over(hour, to); !slices.Equal(got, want) {
			t.Fatalf("Over from %d to %d: %v, not %v", hour, to, got, want)
		}
	}
}

// pairs: all lists of at most two of l.
func pairs[T any](l []T) [][]T {
	all := [][]T{nil}
	for _, a := range l {
		all = append(all, []T{a})
		for _, b := range l {
			all = append(all, []T{a, b})
		}
	}
	return all
}

// Each edit of at most two drops and two puts, on each catalog of at most two entries out of these.
func TestEachSmallEdit(t *testing.T) {
	parts := []api.Part{hourPart(743), hourPart(744), dayPart(30), dayPart(31), monthPart(0), monthPart(1)}
	hours := edges(parts...)
	puts := ones(parts...)
	puts = append(puts, other(dayPart(31)), api.Entry{Part: dayPart(32), Seg: 1})
	for _, ahead := range pairs(ones(parts...)) {
		had, fault := model(nil).apply(Edit{Put: ahead})
		if fault != api.OK {
			continue
		}
		base := of(t, ahead...)
		for _, drop := range pairs(parts) {
			for _, put := range pairs(puts) {
				e := Edit{Drop: drop, Put: put}
				want, fault := had.apply(e)
				c := base.Copy()
				if got := c.Apply(e); got != fault {
					t.Fatalf("%v to %v: %d, not %d", e, ahead, got, fault)
				}
				if got := told(c.All(), -1); !slices.Equal(got, want.all()) {
					t.Fatalf("%v to %v: %v, not %v", e, ahead, got, want)
				}
			}
		}
		alike(t, base, had, parts, hours)
		lawful(t, base, hours)
	}
}

// chance: numbers without a pattern, the same ones in each run.
type chance uint64

func (x *chance) below(n int) int {
	*x = *x*6364136223846793005 + 1442695040888963407
	return int(uint64(*x)>>33) % n
}

// field: partitions of three months and the last ones, each of which meets some others.
func field() []api.Part {
	l := []api.Part{monthPart(0), monthPart(1), monthPart(2), monthPart(lastMonth), dayPart(lastDay), dayPart(lastDay - 1), hourPart(lastHour), hourPart(lastHour - 1), hourPart(16777200)}
	for _, day := range []int64{0, 1, 2, 29, 30, 31, 32, 58, 59, 89} {
		l = append(l, dayPart(day), hourPart(24*day), hourPart(24*day+1), hourPart(24*day+23))
	}
	return l
}

// edit: one of up to three drops and four puts; few of the entries are not right, and few of the drops are not there.
func (x *chance) edit(m model, parts []api.Part) Edit {
	var e Edit
	for range x.below(4) {
		if len(m) > 0 && x.below(12) > 0 {
			e.Drop = append(e.Drop, m[x.below(len(m))].Part)
		} else {
			e.Drop = append(e.Drop, parts[x.below(len(parts))])
		}
	}
	for range x.below(5) {
		p := parts[x.below(len(parts))]
		put := api.Entry{Part: p, Seg: int64(1 + x.below(50)), Mark: int64(x.below(9)), Rows: int64(1 + x.below(9)), Cold: p.Tier == 3 && x.below(2) > 0}
		if x.below(40) == 0 {
			put = wrongEntries(p)[x.below(10)]
		}
		e.Put = append(e.Put, put)
	}
	return e
}

func TestLongRowsOfEdits(t *testing.T) {
	parts := field()
	hours := edges(parts...)
	asked := append(slices.Clone(parts), wrongParts()...)
	for seed := range 12 {
		x := chance(seed)
		c, m := New(), model(nil)
		old, oldM := c.Copy(), m
		counts := [api.Away + 1]int{}
		for i := range 1500 {
			e := x.edit(m, parts)
			next, fault := m.apply(e)
			if got := c.Apply(e); got != fault {
				t.Fatalf("%v to %v: %d, not %d", e, m.all(), got, fault)
			}
			m = next
			counts[fault]++
			if got := told(c.All(), -1); !slices.Equal(got, m.all()) {
				t.Fatalf("%v: %v, not %v", e, got, m.all())
			}
			if i%50 == 0 {
				alike(t, c, m, asked, hours)
				lawful(t, c, hours)
				alike(t, old, oldM, asked, hours)
				old, oldM = c.Copy(), m
			}
		}
		for _, fault := range []api.Fault{api.OK, api.Unknown, api.Malformed, api.Twice} {
			if counts[fault] < 10 {
				t.Errorf("a row has only %d edits of fault %d", counts[fault], fault)
			}
		}
	}
}

// All hours, then all days, then all months over a stretch: each takes the place of those within it, and every hour of it stays in just one entry.
func TestHoursThatGoIntoDaysAndMonths(t *testing.T) {
	c := New()
	var hours []api.Part
	var stretch []int64
	for hour := range int64(744) {
		hours = append(hours, hourPart(hour))
		stretch = append(stretch, hour)
	}
	applies(t, "all hours", c, Edit{Put: ones(hours...)}, api.OK)
	lawful(t, c, stretch)
	var days []api.Part
	for day := range int64(31) {
		days = append(days, dayPart(day))
		fails(t, "a day upon its hours", c, Edit{Put: ones(dayPart(day))}, api.Twice)
		fails(t, "a day for all but one of its hours", c, Edit{Drop: hours[24*day : 24*day+23], Put: ones(dayPart(day))}, api.Twice)
		applies(t, "a day for its hours", c, Edit{Drop: hours[24*day : 24*day+24], Put: ones(dayPart(day))}, api.OK)
		same(t, "how many", c.Len(), int(744-23*(day+1)))
	}
	holds(t, "all days", c, ones(days...)...)
	lawful(t, c, stretch)
	fails(t, "a month for all but one of its days", c, Edit{Drop: days[1:], Put: ones(monthPart(0))}, api.Twice)
	applies(t, "a month for its days", c, Edit{Drop: days, Put: ones(monthPart(0))}, api.OK)
	holds(t, "a month", c, one(monthPart(0)))
	lawful(t, c, stretch)
	applies(t, "hours for the month", c, Edit{Drop: []api.Part{monthPart(0)}, Put: ones(hours...)}, api.OK)
	holds(t, "all hours again", c, ones(hours...)...)
}

// So many entries are there that each call must find its own without going through all of them.
func TestManyEntries(t *testing.T) {
	const many = 100000
	var put []api.Entry
	for i := range int64(many) {
		put = append(put, one(dayPart(i*7919%many)))
	}
	c := of(t, put...)
	same(t, "Len", c.Len(), many)
	next := int64(0)
	for e := range c.All() {
		if e != one(dayPart(next)) {
			t.Fatalf("%v where day %d should be", e, next)
		}
		next++
	}
	for i := range int64(many) {
		hour := 24*i + i%24
		if at, is := c.At(hour); !is || at.Part.Index != i {
			t.Fatalf("hour %d is in %v", hour, at)
		}
		if over := c.Over(hour, hour+1); len(over) != 1 || over[0].Part.Index != i {
			t.Fatalf("hour %d is over %v", hour, over)
		}
		if fault := c.Apply(Edit{Drop: []api.Part{dayPart(i)}, Put: ones(hourPart(hour))}); fault != api.OK {
			t.Fatalf("day %d, to an hour: %d", i, fault)
		}
	}
	same(t, "Len", c.Len(), many)
}
