package mem

import (
	"slices"
	"strconv"
	"testing"

	"ossuary/api"
	"ossuary/catalog"
	"ossuary/wal"
)

// --- P2203: Copy

func TestCopyIsAlike(t *testing.T) {
	l := []wal.Batch{batchOf(2, 3, 5), batchOf(3, 5), batchOf(7, 24, 3)}
	m := none(t, 1)
	holds(t, "a copy of none", m.Copy())
	for i, b := range l {
		adds(t, "Add", m, b, api.OK)
		holds(t, "a copy", m.Copy(), l[:i+1]...)
		holds(t, "a copy's copy", m.Copy().Copy(), l[:i+1]...)
		same(t, "whether it is another one", m.Copy() != m, true)
	}
	m.Drop(3, 4)
	holds(t, "a copy of what is left", m.Copy(), only(l[0], 1), l[1], only(l[2], 0))
}

// A copy has the dimensions, and the Seq to be above, of what it was copied from.
func TestCopyRefusesWhatTheOtherRefuses(t *testing.T) {
	for dims := 1; dims <= 4; dims++ {
		m := none(t, dims)
		adds(t, "Add", m, batchOf(5, 3), api.OK)
		for _, c := range []*Mem{m.Copy(), m.Copy().Copy()} {
			refuses(t, "the same Seq", c, batchOf(5, 3), api.Twice)
			refuses(t, "a Seq below", c, batchOf(4, 3), api.Twice)
			wide := batchOf(6, 3)
			wide.Facts[0].Key.Dims[dims-1] = "x"
			adds(t, "as many dimensions", c, wide, api.OK)
			if dims < 4 {
				wide.Seq = 7
				wide.Facts[0].Key.Dims[dims] = "x"
				refuses(t, "more dimensions", c, wide, api.BadArg)
			}
		}
		m.Drop(3, 4)
		refuses(t, "the same Seq, when its batch is gone", m.Copy(), batchOf(5, 3), api.Twice)
		adds(t, "the next one", m.Copy(), batchOf(6, 3), api.OK)
	}
}

// changes: acts that change a Mem of batchOf(1, 3, 5), batchOf(2, 5, 24) and batchOf(3, 5); what is left then.
func changes(t *testing.T) []struct {
	what string
	act  func(m *Mem)
	left []wal.Batch
} {
	a, b, c := batchOf(1, 3, 5), batchOf(2, 5, 24), batchOf(3, 5)
	return []struct {
		what string
		act  func(m *Mem)
		left []wal.Batch
	}{
		{"Add", func(m *Mem) { adds(t, "Add", m, batchOf(9, 1, 5), api.OK) }, []wal.Batch{a, b, c, batchOf(9, 1, 5)}},
		{"Drop of parts", func(m *Mem) { m.Drop(5, 6) }, []wal.Batch{only(a, 0), only(b, 1)}},
		{"Drop of a first fact", func(m *Mem) { m.Drop(3, 4) }, []wal.Batch{only(a, 1), b, c}},
		{"Drop of all", func(m *Mem) { m.Drop(0, 99) }, nil},
		{"Skip by floor", func(m *Mem) { m.Skip(nil, 5) }, []wal.Batch{only(a, 1), b, c}},
		{"Skip by a catalog", func(m *Mem) { m.Skip(catalogOf(t, entry(2, 0, 2)), 0) }, []wal.Batch{only(b, 1), c}},
		{"Skip by both", func(m *Mem) { m.Skip(catalogOf(t, entry(1, 5, 2)), 4) }, []wal.Batch{only(b, 1), c}},
		{"Add and Drop of it", func(m *Mem) { adds(t, "Add", m, batchOf(8, 1, 30), api.OK); m.Drop(30, 31); m.Drop(1, 2) }, []wal.Batch{a, b, c}},
	}
}

func TestCopyWhenEitherIsChanged(t *testing.T) {
	l := []wal.Batch{batchOf(1, 3, 5), batchOf(2, 5, 24), batchOf(3, 5)}
	for _, first := range changes(t) {
		m := of(t, l...)
		c := m.Copy()
		first.act(m)
		holds(t, first.what+" of the copied", m, first.left...)
		holds(t, "its copy", c, l...)

		m = of(t, l...)
		c = m.Copy()
		first.act(c)
		holds(t, first.what+" of the copy", c, first.left...)
		holds(t, "the copied", m, l...)

		for _, second := range changes(t) {
			m = of(t, l...)
			c, other := m.Copy(), m.Copy()
			first.act(c)
			second.act(other)
			holds(t, first.what+" of a copy", c, first.left...)
			holds(t, second.what+" of another one", other, second.left...)
			holds(t, "the copied", m, l...)
			first.act(m)
			holds(t, first.what+" of the copied, too", m, first.left...)
			holds(t, "the other one", other, second.left...)
		}
	}
}

// Both take batches of their own, however many are there already.
func TestCopyWhenBothAreAddedTo(t *testing.T) {
	var l []wal.Batch
	for n := range 40 {
		m := of(t, l...)
		c := m.Copy()
		d := c.Copy()
		seq := int64(n + 1)
		one, two, three := batchOf(seq, 1, 2), batchOf(seq+1, 3), batchOf(seq+2, 4, 5, 6)
		adds(t, "Add to the copied", m, one, api.OK)
		adds(t, "Add to the copy", c, two, api.OK)
		adds(t, "Add to the copy's copy", d, three, api.OK)
		holds(t, "the copied", m, append(slices.Clone(l), one)...)
		holds(t, "the copy", c, append(slices.Clone(l), two)...)
		holds(t, "the copy's copy", d, append(slices.Clone(l), three)...)
		adds(t, "Add to the copied, what the copy has", m, two, api.OK)
		refuses(t, "Add to the copy, what the copied has", c, one, api.Twice)
		holds(t, "the copied", m, append(slices.Clone(l), one, two)...)
		holds(t, "the copy", c, append(slices.Clone(l), two)...)
		l = append(l, batchOf(seq, 7, 8))
	}
}

// --- Lists that are handed in, and handed out

// roomy: a batch whose list of facts has spare room, and a check that neither changed.
func roomy(t *testing.T, b wal.Batch) (wal.Batch, func(what string)) {
	whole := append(slices.Clone(b.Facts), times(3, factOf(-9, -9, "spare"))...)
	kept := slices.Clone(whole)
	b.Facts = whole[:len(b.Facts)]
	return b, func(what string) {
		t.Helper()
		tells(t, what+": what was handed in", whole, kept...)
	}
}

// spoil changes all elements of a list, and what is behind them.
func spoil[T any](l []T, by T) {
	l = l[:cap(l)]
	for i := range l {
		l[i] = by
	}
}

func TestWhatIsHandedInIsNotChanged(t *testing.T) {
	for _, c := range changes(t) {
		m := none(t, 1)
		var checks []func(what string)
		for _, b := range []wal.Batch{batchOf(1, 3, 5), batchOf(2, 5, 24), batchOf(3, 5)} {
			in, unchanged := roomy(t, b)
			adds(t, "Add", m, in, api.OK)
			checks = append(checks, unchanged)
		}
		c.act(m)
		m.Skip(nil, 4)
		m.Drop(5, 6)
		for _, unchanged := range checks {
			unchanged(c.what)
		}
	}
	m := of(t, batchOf(9, 3))
	for _, b := range append(wrongBatches(), batchOf(9, 4), batchOf(3, 4)) {
		in, unchanged := roomy(t, b)
		same(t, "whether it is refused", m.Add(in) != api.OK, true)
		unchanged("a batch that is refused")
	}
}

func TestWhatIsHandedInAndChangedBehindIt(t *testing.T) {
	a, _ := roomy(t, batchOf(1, 3, 5))
	b, _ := roomy(t, batchOf(2, 5, 24))
	m := of(t, a, b)
	c := m.Copy()
	for _, facts := range [][]api.Fact{a.Facts, b.Facts} {
		spoil(facts, factOf(9, 77, "spoilt"))
	}
	holds(t, "behind it", m, batchOf(1, 3, 5), batchOf(2, 5, 24))
	holds(t, "a copy", c, batchOf(1, 3, 5), batchOf(2, 5, 24))
	same(t, "Drop", m.Drop(9, 10), 0)

	shared := batchOf(1, 3, 5).Facts // one list for two batches
	one, two := wal.Batch{Seq: 1, Facts: shared}, wal.Batch{Seq: 2, Facts: shared[1:]}
	m = of(t, one, two)
	same(t, "Drop", m.Drop(3, 4), 1)
	holds(t, "behind it", m, wal.Batch{Seq: 1, Facts: batchOf(1, 3, 5).Facts[1:]}, wal.Batch{Seq: 2, Facts: batchOf(1, 3, 5).Facts[1:]})
	tells(t, "the list of both", shared, batchOf(1, 3, 5).Facts...)
}

func TestListsHandedOutThatAreChangedBehindIt(t *testing.T) {
	l := []wal.Batch{batchOf(1, 3, 5), batchOf(2, 5, 24), batchOf(3, 5)}
	m := of(t, l...)
	c := m.Copy()
	bad := factOf(9, 77, "spoilt")

	batches, others := m.Batches(), m.Batches()
	for i := range batches {
		facts := batches[i].Facts
		spoil(facts, bad)
		_ = append(facts[:0], bad)
		tellsBatches(t, "those of other batches of the list", batches[i+1:], l[i+1:]...)
	}
	spoil(batches, batchOf(77, 9))
	tellsBatches(t, "another list", others, l...)
	facts, otherFacts := m.Facts(0, 99), m.Facts(0, 99)
	spoil(facts, bad)
	tells(t, "other Facts", otherFacts, factsOf(l...)...)
	spoil(m.Facts(5, 6), bad)
	hours, otherHours := m.Hours(), m.Hours()
	spoil(hours, 77)
	tells(t, "other Hours", otherHours, 3, 5, 24)
	holds(t, "behind all that", m, l...)
	holds(t, "a copy", c, l...)
}

// What was handed out stays as it was, whatever comes and goes then.
func TestListsHandedOutAheadOfChanges(t *testing.T) {
	l := []wal.Batch{batchOf(1, 3, 5), batchOf(2, 5, 24), batchOf(3, 5)}
	for _, c := range changes(t) {
		m := of(t, l...)
		batches, facts, hours := m.Batches(), m.Facts(0, 99), m.Hours()
		c.act(m)
		tellsBatches(t, c.what+": Batches of ahead", batches, l...)
		tells(t, c.what+": Facts of ahead", facts, factsOf(l...)...)
		tells(t, c.what+": Hours of ahead", hours, 3, 5, 24)
	}
}

// --- What a nil Mem says, and one that nobody made

func TestNil(t *testing.T) {
	var m *Mem
	for _, b := range []wal.Batch{batchOf(1, 3), batchOf(1), {}, batchOf(0, 3), batchOf(topSeq, topHour)} {
		adds(t, "Add to nil", m, b, api.BadArg)
	}
	full := catalogOf(t, entry(1, 3, 9))
	for _, n := range []int64{least, -1, 0, 1, 3, 9, topHour, greatest} {
		same(t, "Has of nil", m.Has(n, greatest) || m.Has(least, n) || m.Has(n, n+1), false)
		tells(t, "Facts of nil", m.Facts(n, greatest))
		tells(t, "Facts of nil", m.Facts(least, n))
		same(t, "Drop of nil", m.Drop(n, greatest)+m.Drop(least, n), 0)
		same(t, "Skip of nil", m.Skip(nil, n)+m.Skip(full, n)+m.Skip(&catalog.Catalog{}, n), 0)
	}
	tells(t, "Hours of nil", m.Hours())
	tellsBatches(t, "Batches of nil", m.Batches())
	same(t, "Bytes of nil", m.Bytes(), 0)
	same(t, "whether Copy of nil is one", m.Copy() != nil, false)
}

// One that nobody made is for no dimensions, so it takes nothing.
func TestZeroMem(t *testing.T) {
	var m Mem
	holds(t, "as it is", &m)
	holds(t, "its copy", m.Copy())
	for dims := range 5 {
		b := wal.Batch{Seq: 1, Tick: 2, Budget: 3, Facts: []api.Fact{factOf(3, 1, []string{"a", "b", "c", "d"}[:dims]...)}}
		refuses(t, "Add, with dimensions "+strconv.Itoa(dims), &m, b, api.BadArg)
	}
	same(t, "Drop", m.Drop(least, greatest), 0)
	same(t, "Skip", m.Skip(nil, greatest), 0)
}
