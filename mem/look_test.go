package mem

import (
	"testing"

	"ossuary/api"
	"ossuary/fact"
	"ossuary/wal"
)

// --- P2202: Hours

func TestHoursRisingEachOnce(t *testing.T) {
	tells(t, "of none", none(t, 1).Hours())
	m := of(t, batchOf(1, 9))
	tells(t, "of one", m.Hours(), 9)
	adds(t, "Add", m, batchOf(2, 9, 3, 9, 3), api.OK)
	tells(t, "falling, and more than once", m.Hours(), 3, 9)
	adds(t, "Add", m, batchOf(3, topHour, 5, 0, topHour), api.OK)
	tells(t, "from 0 to the greatest", m.Hours(), 0, 3, 5, 9, topHour)
	adds(t, "Add", m, batchOf(4, 3, 0, 5, 9), api.OK)
	tells(t, "nothing new", m.Hours(), 0, 3, 5, 9, topHour)
	tells(t, "again", m.Hours(), 0, 3, 5, 9, topHour)
}

func TestHoursOfWhatIsLeft(t *testing.T) {
	m := of(t, batchOf(1, 9, 3, 5), batchOf(2, 5, 9), batchOf(4, 0, 5))
	m.Drop(9, 10)
	tells(t, "without one hour", m.Hours(), 0, 3, 5)
	m.Skip(catalogOf(t, entry(1, 5, 2)), 0)
	tells(t, "of an hour a fact is left", m.Hours(), 0, 3, 5)
	m.Skip(catalogOf(t, entry(1, 5, 4)), 0)
	tells(t, "of an hour no fact is left", m.Hours(), 0, 3)
	m.Skip(nil, 1)
	tells(t, "without hour 0", m.Hours(), 3)
	m.Drop(3, 4)
	tells(t, "of none", m.Hours())
}

func TestHoursOfManyBatches(t *testing.T) {
	m := none(t, 1)
	var want []int64
	for i := range int64(500) {
		adds(t, "Add", m, batchOf(i+1, i*7919%500*3, i*31%500*3, 600), api.OK)
		want = append(want, 3*i)
	}
	tells(t, "Hours", m.Hours(), want...)
}

// --- P2202: Has, Facts

// asks fails the test where Has and Facts don't tell just these facts of a range.
func asks(t *testing.T, what string, m *Mem, from, to int64, want ...api.Fact) {
	t.Helper()
	same(t, what+": Has "+between(from, to), m.Has(from, to), len(want) > 0)
	tells(t, what+": Facts "+between(from, to), m.Facts(from, to), want...)
}

func TestHasAndFactsOfRanges(t *testing.T) {
	a, b := batchOf(1, 3, 5), batchOf(2, 5, 24, 4)
	m := of(t, a, b)
	three, five, other, day, four := a.Facts[0], a.Facts[1], b.Facts[0], b.Facts[1], b.Facts[2]
	for _, r := range []struct {
		from, to int64
		want     []api.Fact
	}{
		// one hour
		{3, 4, []api.Fact{three}}, {4, 5, []api.Fact{four}}, {5, 6, []api.Fact{five, other}}, {24, 25, []api.Fact{day}}, {2, 3, nil}, {6, 7, nil}, {23, 24, nil}, {25, 26, nil},
		// from an hour that has facts on, and from the next one; below such an hour, and with it
		{3, 25, []api.Fact{three, five, other, day, four}}, {4, 25, []api.Fact{five, other, day, four}}, {3, 24, []api.Fact{three, five, other, four}}, {4, 24, []api.Fact{five, other, four}},
		{5, 24, []api.Fact{five, other}}, {6, 24, nil}, {6, 25, []api.Fact{day}}, {3, 5, []api.Fact{three, four}}, {0, 3, nil}, {0, 4, []api.Fact{three}}, {24, 99, []api.Fact{day}}, {25, 99, nil},
		// empty ones: from is to, or above it
		{0, 0, nil}, {3, 3, nil}, {5, 5, nil}, {24, 24, nil}, {4, 3, nil}, {5, 3, nil}, {6, 5, nil}, {25, 3, nil}, {99, 0, nil}, {-1, -1, nil},
		// below 0, and at the ends of the type
		{-9, 0, nil}, {-9, 4, []api.Fact{three}}, {least, 3, nil}, {least, 4, []api.Fact{three}}, {least, 0, nil}, {least, least, nil}, {least, least + 1, nil},
		{24, greatest, []api.Fact{day}}, {25, greatest, nil}, {least, greatest, []api.Fact{three, five, other, day, four}}, {greatest, least, nil}, {greatest, greatest, nil}, {greatest - 1, greatest, nil}, {0, least, nil}, {greatest, 0, nil}, {greatest, 4, nil}, {5, least, nil},
	} {
		asks(t, "two batches", m, r.from, r.to, r.want...)
	}
}

func TestHasAndFactsOfHoursAtTheirEnds(t *testing.T) {
	b := batchOf(1, 0, topHour)
	m := of(t, b)
	first, last := b.Facts[0], b.Facts[1]
	for _, r := range []struct {
		from, to int64
		want     []api.Fact
	}{
		{0, 1, []api.Fact{first}}, {-1, 0, nil}, {-1, 1, []api.Fact{first}}, {1, topHour, nil}, {0, topHour, []api.Fact{first}}, {0, topHour + 1, []api.Fact{first, last}}, {1, topHour + 1, []api.Fact{last}},
		{topHour, topHour + 1, []api.Fact{last}}, {topHour + 1, topHour + 2, nil}, {topHour + 1, greatest, nil}, {topHour, greatest, []api.Fact{last}}, {least, 1, []api.Fact{first}}, {topHour, topHour, nil}, {0, 0, nil},
	} {
		asks(t, "hours at their ends", m, r.from, r.to, r.want...)
	}
}

func TestHasAndFactsOfNone(t *testing.T) {
	gone := of(t, batchOf(1, 3, 5))
	gone.Drop(0, 9)
	for _, m := range []*Mem{nil, {}, none(t, 1), gone} {
		for _, from := range []int64{least, -1, 0, 3, 5, topHour, greatest} {
			for _, to := range []int64{least, 0, 1, 4, topHour + 1, greatest} {
				asks(t, "none", m, from, to)
			}
		}
	}
}

// Facts come batch by batch, and those of a batch as they stand there, neither by their hours nor by their keys.
func TestFactsComeAsTheyCame(t *testing.T) {
	a := wal.Batch{Seq: 2, Tick: 9, Budget: 9, Facts: []api.Fact{factOf(7, 5, "b"), factOf(3, 9, "z"), factOf(7, 1, "a"), factOf(3, -2, "z"), factOf(7, 5, "b")}}
	b := wal.Batch{Seq: 5, Tick: 1, Budget: 2, Facts: []api.Fact{factOf(3, 0, "a"), factOf(9, 1), factOf(7, 0)}}
	c := wal.Batch{Seq: 6, Tick: 1, Budget: 2, Facts: []api.Fact{factOf(0, 8), factOf(7, -7, "z"), factOf(3, 3)}}
	m := of(t, a, b, c)
	asks(t, "all", m, 0, 10, a.Facts[0], a.Facts[1], a.Facts[2], a.Facts[3], a.Facts[4], b.Facts[0], b.Facts[1], b.Facts[2], c.Facts[0], c.Facts[1], c.Facts[2])
	asks(t, "hour 7", m, 7, 8, a.Facts[0], a.Facts[2], a.Facts[4], b.Facts[2], c.Facts[1])
	asks(t, "hours 3 to 7", m, 3, 7, a.Facts[1], a.Facts[3], b.Facts[0], c.Facts[2])
	m.Drop(9, 10)
	m.Skip(catalogOf(t, entry(1, 7, 5)), 1)
	asks(t, "what is left", m, least, greatest, a.Facts[1], a.Facts[3], b.Facts[0], c.Facts[1], c.Facts[2])
	adds(t, "Add", m, wal.Batch{Seq: 9, Facts: []api.Fact{factOf(1, 1), factOf(3, 1)}}, api.OK)
	asks(t, "and another one behind it", m, 0, 4, a.Facts[1], a.Facts[3], b.Facts[0], c.Facts[2], factOf(1, 1), factOf(3, 1))
}

// What Facts tells is what wal tells of Batches, and its hours are those that fact tells.
func TestFactsAndHoursAsTheLayersBelowTellThem(t *testing.T) {
	x := chance(3)
	for range 60 {
		m := none(t, 2)
		for seq := range int64(x.below(12)) {
			adds(t, "Add", m, x.batch(2*seq+1, 2), api.OK)
		}
		m.Drop(int64(x.below(40)), int64(x.below(40)))
		for range 20 {
			from, to := int64(x.below(44)-2), int64(x.below(44)-2)
			asks(t, "some", m, from, to, wal.Facts(m.Batches(), from, to)...)
		}
		tells(t, "Hours", m.Hours(), fact.Hours(m.Facts(least, greatest))...)
	}
}
