package mem

import (
	"slices"
	"strconv"
	"testing"

	"ossuary/api"
	"ossuary/catalog"
	"ossuary/wal"
)

// --- P2203: Skip

// skips fails the test where Skip does not tell that many, or leaves anything but these batches; twice nothing more goes.
func skips(t *testing.T, what string, m *Mem, c *catalog.Catalog, floor int64, gone int, left ...wal.Batch) {
	t.Helper()
	same(t, what+": Skip", m.Skip(c, floor), gone)
	holds(t, what, m, left...)
	same(t, what+": Skip again", m.Skip(c, floor), 0)
	holds(t, what+", again", m, left...)
}

func TestSkipByFloorAlone(t *testing.T) {
	a, b := batchOf(1, 3, 5), batchOf(4, 5, 24, 0)
	for _, f := range []struct {
		floor int64
		gone  int
		want  []wal.Batch
	}{
		{least, 0, []wal.Batch{a, b}}, {-24, 0, []wal.Batch{a, b}}, {-1, 0, []wal.Batch{a, b}}, {0, 0, []wal.Batch{a, b}},
		{1, 1, []wal.Batch{a, only(b, 0, 1)}}, {2, 1, []wal.Batch{a, only(b, 0, 1)}}, {3, 1, []wal.Batch{a, only(b, 0, 1)}},
		{4, 2, []wal.Batch{only(a, 1), only(b, 0, 1)}}, {5, 2, []wal.Batch{only(a, 1), only(b, 0, 1)}},
		{6, 4, []wal.Batch{only(b, 1)}}, {23, 4, []wal.Batch{only(b, 1)}}, {24, 4, []wal.Batch{only(b, 1)}},
		{25, 5, nil}, {topHour, 5, nil}, {topHour + 1, 5, nil}, {greatest - 1, 5, nil}, {greatest, 5, nil},
	} {
		what := "floor " + text(f.floor)
		skips(t, what+", a nil catalog", of(t, a, b), nil, f.floor, f.gone, f.want...)
		skips(t, what+", an empty one", of(t, a, b), catalog.New(), f.floor, f.gone, f.want...)
		skips(t, what+", one of other hours", of(t, a, b), catalogOf(t, entry(1, 4, topSeq), entry(1, 6, topSeq), entry(2, 2, topSeq), entry(3, 1, topSeq)), f.floor, f.gone, f.want...)
		skips(t, what+", one of batches ahead", of(t, a, b), catalogOf(t, entry(2, 0, 0), entry(2, 1, 0)), f.floor, f.gone, f.want...)
	}
}

func TestSkipByFloorOfTheGreatestHour(t *testing.T) {
	b := batchOf(1, topHour, 0)
	skips(t, "at it", of(t, b), nil, topHour, 1, only(b, 0))
	skips(t, "above it", of(t, b), nil, topHour+1, 2)
	skips(t, "below it", of(t, b), nil, topHour-1, 1, only(b, 0))
}

// places: partitions of each tier, among them the first ones, the last ones, and a month of 29 days.
func places() []api.Part {
	return []api.Part{
		{Tier: 1, Index: 0}, {Tier: 1, Index: 5}, {Tier: 1, Index: 743}, {Tier: 1, Index: 744}, {Tier: 1, Index: topHour - 1}, {Tier: 1, Index: topHour},
		{Tier: 2, Index: 0}, {Tier: 2, Index: 1}, {Tier: 2, Index: 30}, {Tier: 2, Index: 31}, {Tier: 2, Index: 58}, {Tier: 2, Index: 699049}, {Tier: 2, Index: 699050},
		{Tier: 3, Index: 0}, {Tier: 3, Index: 1}, {Tier: 3, Index: 25}, {Tier: 3, Index: 22966}, {Tier: 3, Index: 22967},
	}
}

// around: hours just ahead of, at both ends of, within and just behind a partition, as far as facts may have them.
func around(p api.Part) []int64 {
	from, to := spanAs(p)
	return slices.DeleteFunc([]int64{from - 2, from - 1, from, from + 1, (from + to) / 2, to - 2, to - 1, to, to + 1, topHour}, func(hour int64) bool {
		return hour < 0 || hour > topHour
	})
}

func TestSkipByEntriesOfEachTier(t *testing.T) {
	for _, p := range places() {
		from, to := spanAs(p)
		for _, hour := range around(p) {
			for _, seq := range []int64{1, 2, 100, topSeq - 1, topSeq} {
				for _, mark := range []int64{0, 1, seq - 2, seq - 1, seq, seq + 1, topSeq} {
					if mark < 0 || mark > topSeq {
						continue
					}
					what := "tier " + strconv.Itoa(p.Tier) + ", " + text(p.Index) + ", hour " + text(hour) + ", Mark " + text(mark) + ", Seq " + text(seq)
					b := batchOf(seq, hour)
					m, c := of(t, b), catalogOf(t, entry(p.Tier, p.Index, mark))
					if from <= hour && hour < to && mark >= seq {
						skips(t, what, m, c, least, 1)
					} else {
						skips(t, what, m, c, 0, 0, b)
					}
				}
			}
		}
	}
}

// Whether a month is in the store of objects tells nothing here.
func TestSkipByColdEntries(t *testing.T) {
	b := batchOf(5, 743, 744, 1415, 1416)
	for _, e := range []api.Entry{entry(3, 1, 5), coldEntry(1, 5)} {
		skips(t, "its Mark is the Seq", of(t, b), catalogOf(t, e), 0, 2, only(b, 0, 3))
	}
	for _, e := range []api.Entry{entry(3, 1, 4), coldEntry(1, 4)} {
		skips(t, "its Mark is one below", of(t, b), catalogOf(t, e), 0, 0, b)
	}
}

// Of each fact the entry that its own hour is in is asked, and of each batch its own Seq.
func TestSkipByEntriesOfOtherMarks(t *testing.T) {
	a, b, c := batchOf(2, 3, 30, 800), batchOf(3, 800, 3, 30, 2000), batchOf(4, 30, 800, 3)
	marks := []int64{0, 1, 2, 3, 4, 5}
	for _, hour := range marks {
		for _, day := range marks {
			for _, month := range marks {
				entries := []api.Entry{entry(1, 3, hour), entry(2, 1, day), coldEntry(1, month)}
				var want []wal.Batch
				for _, l := range []wal.Batch{a, b, c} {
					l.Facts = slices.DeleteFunc(slices.Clone(l.Facts), func(f api.Fact) bool {
						switch f.Key.Hour {
						case 3:
							return hour >= l.Seq
						case 30:
							return day >= l.Seq
						case 800:
							return month >= l.Seq
						}
						return false
					})
					if len(l.Facts) > 0 {
						want = append(want, l)
					}
				}
				gone := 10 - len(factsOf(want...))
				skips(t, "Marks "+text(hour)+", "+text(day)+", "+text(month), of(t, a, b, c), catalogOf(t, entries...), 0, gone, want...)
			}
		}
	}
}

// A fact that is below the floor and in an entry is gone once.
func TestSkipByBoth(t *testing.T) {
	a, b := batchOf(1, 3, 5, 24), batchOf(4, 5, 24, 3)
	c := catalogOf(t, entry(1, 3, 9), entry(1, 5, 1), entry(2, 1, 3))
	for _, f := range []struct {
		floor int64
		gone  int
		want  []wal.Batch
	}{
		{least, 4, []wal.Batch{only(b, 0, 1)}}, {0, 4, []wal.Batch{only(b, 0, 1)}}, {3, 4, []wal.Batch{only(b, 0, 1)}}, {4, 4, []wal.Batch{only(b, 0, 1)}}, {5, 4, []wal.Batch{only(b, 0, 1)}},
		{6, 5, []wal.Batch{only(b, 1)}}, {24, 5, []wal.Batch{only(b, 1)}}, {25, 6, nil}, {greatest, 6, nil},
	} {
		skips(t, "floor "+text(f.floor), of(t, a, b), c, f.floor, f.gone, f.want...)
	}
}

func TestSkipOfNone(t *testing.T) {
	full := catalogOf(t, entry(1, 3, topSeq), entry(2, 1, topSeq), entry(3, 1, topSeq))
	for _, m := range []*Mem{nil, {}, none(t, 1)} {
		for _, c := range []*catalog.Catalog{nil, {}, catalog.New(), full} {
			for _, floor := range []int64{least, -1, 0, 1, greatest} {
				same(t, "Skip of none", m.Skip(c, floor), 0)
				holds(t, "behind it", m)
			}
		}
	}
}

// Nothing is kept of a catalog, and it stays as it was.
func TestSkipKeepsNothingOfACatalog(t *testing.T) {
	c := catalogOf(t, entry(1, 5, 9), entry(2, 1, 9))
	had := c.Over(least, greatest)
	m := of(t, batchOf(1, 3, 5, 24))
	same(t, "Skip", m.Skip(c, 0), 2)
	tells(t, "the catalog", c.Over(least, greatest), had...)
	adds(t, "Add of such hours again", m, batchOf(2, 5, 24), api.OK)
	holds(t, "all that is there", m, only(batchOf(1, 3, 5, 24), 0), batchOf(2, 5, 24))
	same(t, "Drop in the catalog", c.Apply(catalog.Edit{Drop: []api.Part{{Tier: 2, Index: 1}}}), api.OK)
	same(t, "Skip, when an entry is gone", m.Skip(c, 0), 1)
	holds(t, "behind it", m, only(batchOf(1, 3, 5, 24), 0), only(batchOf(2, 5, 24), 1))
	same(t, "Put in the catalog", c.Apply(catalog.Edit{Put: []api.Entry{entry(1, 3, 1), entry(1, 24, 1)}}), api.OK)
	same(t, "Skip, when entries came", m.Skip(c, 0), 1)
	holds(t, "behind it", m, only(batchOf(2, 5, 24), 1))
}

// A fact that is dropped is not skipped, and the other way round.
func TestSkipAndDropOfTheSameHours(t *testing.T) {
	c := catalogOf(t, entry(2, 0, 9))
	m := of(t, batchOf(1, 3, 5, 24))
	same(t, "Drop", m.Drop(3, 4), 1)
	same(t, "Skip", m.Skip(c, 0), 1)
	same(t, "Drop", m.Drop(0, 24), 0)
	same(t, "Skip", m.Skip(c, 24), 0)
	same(t, "Drop", m.Drop(0, 25), 1)
	same(t, "Skip", m.Skip(c, greatest), 0)
	holds(t, "behind all", m)
}

func TestSkipWithoutAPattern(t *testing.T) {
	x := chance(23)
	for range 300 {
		m, want := none(t, 2), model{dims: 2}
		seq := int64(0)
		for range x.below(8) {
			seq += int64(1 + x.below(3))
			b := x.batch(seq, 2)
			adds(t, "Add", m, b, want.add(b))
		}
		entries := x.entries(seq)
		floor := oneOf(&x, least, 0, 0, int64(x.below(45)), topHour)
		same(t, "Skip", m.Skip(catalogOf(t, entries...), floor), want.skip(entries, floor))
		holds(t, "behind it", m, want.batches()...)
	}
}

// entries: some of the first two days, by hours or as days, and of the months behind, with Marks around seq.
func (x *chance) entries(seq int64) []api.Entry {
	var l []api.Entry
	mark := func() int64 { return int64(x.below(int(seq) + 2)) }
	for day := range int64(2) {
		if x.below(3) == 0 {
			l = append(l, entry(2, day, mark()))
			continue
		}
		for hour := 24 * day; hour < 24*day+24; hour++ {
			if x.below(3) == 0 {
				l = append(l, entry(1, hour, mark()))
			}
		}
	}
	if x.below(2) == 0 {
		l = append(l, coldEntry(1, mark()))
	}
	if x.below(2) == 0 {
		l = append(l, entry(3, 22967, mark()))
	}
	return l
}
