package mem

import (
	"strconv"
	"testing"

	"ossuary/api"
	"ossuary/wal"
)

// --- P2204, and all calls together, by the chapter's words

// act: a call, done to a Mem and to its model; what both answer.
type act struct {
	what string
	do   func(m *Mem) int
	as   func(m *model) int
}

func adding(b wal.Batch) act {
	return act{
		"Add of Seq " + text(b.Seq) + ", facts " + strconv.Itoa(len(b.Facts)),
		func(m *Mem) int { return int(m.Add(b)) },
		func(m *model) int { return int(m.add(b)) },
	}
}

func dropping(from, to int64) act {
	return act{
		"Drop " + between(from, to),
		func(m *Mem) int { return m.Drop(from, to) },
		func(m *model) int { return m.drop(from, to) },
	}
}

func skipping(t *testing.T, floor int64, entries ...api.Entry) act {
	c := catalogOf(t, entries...)
	return act{
		"Skip of floor " + text(floor) + ", entries " + strconv.Itoa(len(entries)),
		func(m *Mem) int { return m.Skip(c, floor) },
		func(m *model) int { return m.skip(entries, floor) },
	}
}

// tellsAs fails the test where m does not tell what its model does.
func tellsAs(t *testing.T, what string, m *Mem, want model) {
	t.Helper()
	holds(t, what, m, want.batches()...)
	for _, from := range []int64{least, 0, 4, 5, 24} {
		for _, to := range []int64{0, 5, 6, 25, greatest} {
			asks(t, what, m, from, to, want.facts(from, to)...)
		}
	}
}

// Each row of up to four acts out of these.
func TestEachRowOfActs(t *testing.T) {
	acts := []act{
		adding(batchOf(1, 3, 5)), adding(batchOf(2, 5, 24, 5)), adding(batchOf(3, 24, 4)), adding(batchOf(4, 5)), adding(batchOf(9)),
		dropping(3, 5), dropping(5, 6), dropping(5, 25), dropping(6, 6),
		skipping(t, 5), skipping(t, least, entry(1, 5, 2)), skipping(t, 0, entry(2, 0, 1), entry(2, 1, 3)), skipping(t, 4, coldEntry(0, 2)),
	}
	var walk func(row string, m *Mem, want model, deep int)
	walk = func(row string, m *Mem, want model, deep int) {
		tellsAs(t, row, m, want)
		if t.Failed() {
			t.FailNow()
		}
		if deep == 0 {
			return
		}
		for _, a := range acts {
			next, then := m.Copy(), want.apart()
			same(t, row+" "+a.what, a.do(next), a.as(&then))
			walk(row+" "+a.what+";", next, then, deep-1)
		}
		holds(t, row+" as it was", m, want.batches()...)
	}
	walk("", none(t, 1), model{dims: 1}, 4)
}

// ledger: where each fact is that was added, by its value, which no other one has.
type ledger struct {
	there map[int64]bool // false: it was dropped
}

// see fails the test where a fact is there that was not, or where not just so many are gone since.
func (l ledger) see(t *testing.T, what string, m *Mem, gone int) {
	t.Helper()
	now := map[int64]bool{}
	for _, b := range m.Batches() {
		for _, f := range b.Facts {
			if now[f.Value] || !l.there[f.Value] {
				t.Fatalf("%s: fact %d is there twice, or again, or was never added", what, f.Value)
			}
			now[f.Value] = true
		}
	}
	for value, was := range l.there {
		if was && !now[value] {
			l.there[value] = false
			gone--
		}
	}
	if gone != 0 {
		t.Fatalf("%s: %d more were told to be gone than are", what, gone)
	}
}

// Behind any acts every fact that was added is there, or was dropped, once: so the numbers that are told come to all that were added.
func TestEveryFactIsThereOrWasDroppedOnce(t *testing.T) {
	for seed := range 20 {
		x := chance(seed)
		m := none(t, 1)
		l := ledger{map[int64]bool{}}
		seq, value, dropped := int64(0), int64(0), 0
		for range 400 {
			switch x.below(8) {
			case 0:
				n := m.Drop(int64(x.below(40)), int64(x.below(40)))
				dropped += n
				l.see(t, "Drop", m, n)
			case 1:
				n := m.Skip(catalogOf(t, x.entries(seq)...), oneOf[int64](&x, least, 0, 2, 5))
				dropped += n
				l.see(t, "Skip", m, n)
			case 2:
				b := x.batch(seq-int64(x.below(2)), 1)
				same(t, "whether one that is not above is refused", m.Add(b) != api.OK, true)
				l.see(t, "Add that is refused", m, 0)
			case 3:
				m = m.Copy()
				l.see(t, "Copy", m, 0)
			default:
				seq += int64(1 + x.below(3))
				b := x.batch(seq, 1)
				for i := range b.Facts {
					value++
					b.Facts[i].Value = value
					l.there[value] = true
				}
				adds(t, "Add", m, b, api.OK)
				l.see(t, "Add", m, 0)
			}
			same(t, "facts that are there, and that were dropped", len(m.Facts(least, greatest))+dropped, int(value))
		}
		n := m.Drop(least, greatest)
		l.see(t, "Drop of all", m, n)
		same(t, "all that were dropped", dropped+n, int(value))
		holds(t, "at the end", m)
	}
}

func TestLongRowsOfActs(t *testing.T) {
	for seed := range 12 {
		x := chance(100 + seed)
		dims := 1 + seed%4
		m, want := none(t, dims), model{dims: dims}
		old, oldWant := m.Copy(), want.apart()
		seq := int64(0)
		for i := range 500 {
			a := x.act(t, &seq, dims)
			same(t, a.what, a.do(m), a.as(&want))
			if i%10 == 0 {
				tellsAs(t, a.what, m, want)
				tellsAs(t, "a copy of some acts ago", old, oldWant)
				old, oldWant = m.Copy(), want.apart()
			}
			if t.Failed() {
				t.FailNow()
			}
		}
	}
}

// act: any one; most are batches that are right and whose Seq is above.
func (x *chance) act(t *testing.T, seq *int64, dims int) act {
	switch x.below(10) {
	case 0, 1:
		from := int64(x.below(40))
		return dropping(from, from+int64(x.below(12)))
	case 2:
		return dropping(int64(x.below(40)), oneOf[int64](x, least, 0, topHour, topHour+1, greatest))
	case 3, 4:
		return skipping(t, oneOf(x, least, 0, 1, int64(x.below(20))), x.entries(*seq)...)
	case 5:
		return adding(wrongBatches()[x.below(len(wrongBatches()))])
	case 6:
		return adding(x.batch(*seq-int64(x.below(3)), dims))
	}
	*seq += int64(1 + x.below(3))
	return adding(x.batch(*seq, dims))
}

// So many batches are there that no call may go through all of them once for each, nor Bytes through all records.
func TestManyBatches(t *testing.T) {
	const many = 20000
	m := none(t, 1)
	want := model{dims: 1}
	bytes := int64(0)
	for seq := range int64(many) {
		b := batchOf(seq+1, seq%100, seq*31%1000)
		adds(t, "Add", m, b, want.add(b))
		bytes += bytesAs([]wal.Batch{b}, 1)
		if m.Bytes() != bytes {
			t.Fatalf("Bytes: %d, not %d", m.Bytes(), bytes)
		}
	}
	holds(t, "all", m, want.batches()...)
	same(t, "Drop", m.Drop(10, 500), want.drop(10, 500))
	entries := []api.Entry{entry(2, 0, many/2), coldEntry(1, many)}
	same(t, "Skip", m.Skip(catalogOf(t, entries...), 5), want.skip(entries, 5))
	holds(t, "what is left", m, want.batches()...)
}
