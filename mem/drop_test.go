package mem

import (
	"slices"
	"testing"

	"ossuary/api"
	"ossuary/seg"
	"ossuary/wal"
)

// --- P2203: Drop

func TestDropOfRanges(t *testing.T) {
	a, b := batchOf(1, 3, 5), batchOf(2, 5, 24, 4)
	for _, r := range []struct {
		from, to int64
		gone     int
		want     []wal.Batch
	}{
		// one hour
		{3, 4, 1, []wal.Batch{only(a, 1), b}}, {4, 5, 1, []wal.Batch{a, only(b, 0, 1)}}, {5, 6, 2, []wal.Batch{only(a, 0), only(b, 1, 2)}}, {24, 25, 1, []wal.Batch{a, only(b, 0, 2)}},
		{2, 3, 0, []wal.Batch{a, b}}, {6, 7, 0, []wal.Batch{a, b}}, {23, 24, 0, []wal.Batch{a, b}}, {25, 26, 0, []wal.Batch{a, b}},
		// from and to hours that have facts
		{3, 25, 5, nil}, {4, 25, 4, []wal.Batch{only(a, 0)}}, {3, 24, 4, []wal.Batch{only(b, 1)}}, {4, 24, 3, []wal.Batch{only(a, 0), only(b, 1)}},
		{3, 6, 4, []wal.Batch{only(b, 1)}}, {5, 25, 3, []wal.Batch{only(a, 0), only(b, 2)}}, {4, 6, 3, []wal.Batch{only(a, 0), only(b, 1)}}, {3, 5, 2, []wal.Batch{only(a, 1), only(b, 0, 1)}},
		// empty ones
		{0, 0, 0, []wal.Batch{a, b}}, {3, 3, 0, []wal.Batch{a, b}}, {5, 5, 0, []wal.Batch{a, b}}, {4, 3, 0, []wal.Batch{a, b}}, {6, 5, 0, []wal.Batch{a, b}}, {25, 3, 0, []wal.Batch{a, b}}, {99, 0, 0, []wal.Batch{a, b}},
		// below 0, and at the ends of the type
		{-9, 0, 0, []wal.Batch{a, b}}, {-9, 4, 1, []wal.Batch{only(a, 1), b}}, {least, 4, 1, []wal.Batch{only(a, 1), b}}, {least, 3, 0, []wal.Batch{a, b}}, {least, least, 0, []wal.Batch{a, b}},
		{24, greatest, 1, []wal.Batch{a, only(b, 0, 2)}}, {25, greatest, 0, []wal.Batch{a, b}}, {least, greatest, 5, nil}, {greatest, least, 0, []wal.Batch{a, b}}, {greatest, greatest, 0, []wal.Batch{a, b}}, {greatest, 4, 0, []wal.Batch{a, b}}, {5, least, 0, []wal.Batch{a, b}},
	} {
		m := of(t, a, b)
		same(t, "Drop "+between(r.from, r.to), m.Drop(r.from, r.to), r.gone)
		holds(t, "without hours "+between(r.from, r.to), m, r.want...)
		same(t, "Drop again, "+between(r.from, r.to), m.Drop(r.from, r.to), 0)
		holds(t, "without them again", m, r.want...)
		next := batchOf(3, 4, 5)
		adds(t, "Add behind it", m, next, api.OK)
		holds(t, "and another one", m, append(slices.Clone(r.want), next)...)
	}
}

func TestDropOfHoursAtTheirEnds(t *testing.T) {
	b := batchOf(1, 0, topHour)
	for _, r := range []struct {
		from, to int64
		want     []wal.Batch
	}{
		{0, 1, []wal.Batch{only(b, 1)}}, {-1, 0, []wal.Batch{b}}, {1, topHour, []wal.Batch{b}}, {0, topHour, []wal.Batch{only(b, 1)}}, {1, topHour + 1, []wal.Batch{only(b, 0)}}, {topHour, topHour + 1, []wal.Batch{only(b, 0)}}, {topHour + 1, greatest, []wal.Batch{b}}, {0, topHour + 1, nil},
	} {
		m := of(t, b)
		same(t, "Drop "+between(r.from, r.to), m.Drop(r.from, r.to), 2-len(factsOf(r.want...)))
		holds(t, "without hours "+between(r.from, r.to), m, r.want...)
	}
}

func TestDropOfNone(t *testing.T) {
	for _, m := range []*Mem{nil, {}, none(t, 3)} {
		for _, from := range []int64{least, -1, 0, 5, greatest} {
			same(t, "Drop", m.Drop(from, greatest), 0)
			same(t, "Drop", m.Drop(least, from), 0)
		}
		holds(t, "behind it", m)
	}
}

// What was dropped does not come back, but what is added then is there, also for the hours that were dropped.
func TestDropThenAddOfTheSameHours(t *testing.T) {
	m := of(t, batchOf(1, 3, 5))
	for seq := int64(2); seq < 40; seq++ {
		same(t, "Drop", m.Drop(3, 6), 2)
		holds(t, "behind it", m)
		adds(t, "Add", m, batchOf(seq, 3, 5), api.OK)
		holds(t, "behind that", m, batchOf(seq, 3, 5))
	}
}

// Drop takes what Facts tells, and leaves what it does not tell, in all ranges of some hours.
func TestDropTakesWhatFactsTells(t *testing.T) {
	l := []wal.Batch{batchOf(2, 4, 1, 4), batchOf(3, 2), batchOf(6, 0, 3, 2, 1), batchOf(7, 4, 4)}
	whole := model{dims: 1}
	for _, b := range l {
		whole.add(b)
	}
	for from := int64(-1); from <= 6; from++ {
		for to := int64(-1); to <= 6; to++ {
			m, want := of(t, l...), whole.apart()
			told := len(m.Facts(from, to))
			same(t, "Drop "+between(from, to), m.Drop(from, to), told)
			same(t, "as the words say", want.drop(from, to), told)
			holds(t, "without "+between(from, to), m, want.batches()...)
			asks(t, "what was dropped", m, from, to)
			tellsBatches(t, "as wal would", m.Batches(), wal.Trim(l, from, to, topSeq)...)
		}
	}
}

// What is there and what was dropped come to one segment, whatever was dropped.
func TestSegmentOfWhatIsThereAndWhatIsDropped(t *testing.T) {
	x := chance(11)
	m := none(t, 1)
	for seq := range int64(30) {
		adds(t, "Add", m, batchOf(seq+1, int64(x.below(50)), int64(x.below(50)), 7), api.OK)
	}
	whole, _ := seg.Of(m.Facts(least, greatest))
	var parts []*seg.Seg
	for range 12 {
		from := int64(x.below(50))
		gone, _ := seg.Of(m.Facts(from, from+4))
		m.Drop(from, from+4)
		left, _ := seg.Of(m.Facts(least, greatest))
		parts = append(parts, gone)
		all, fault := seg.Merge(append(slices.Clone(parts), left)...)
		same(t, "seg's fault", fault, api.OK)
		same(t, "whether it is the same segment", all.Same(whole), true)
	}
}
