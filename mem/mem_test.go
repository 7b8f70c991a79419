package mem

import (
	"encoding/binary"
	"math"
	"slices"
	"strconv"
	"strings"
	"testing"
	"time"

	"ossuary/api"
	"ossuary/catalog"
	"ossuary/wal"
)

const (
	least    = math.MinInt64
	greatest = math.MaxInt64
	topSeq   = 4611686018427387904 // 2^62
	topTick  = 1006633020          // 60 times 16777217
	topHour  = 16777216
	topValue = 1152921504606846976 // 2^60
)

// same fails the test where got is not what the chapter says.
func same[T comparable](t *testing.T, what string, got, want T) {
	t.Helper()
	if got != want {
		t.Errorf("%s: %v, not %v", what, got, want)
	}
}

// tells fails the test where a list is not what the chapter says; one without an element may be nil or empty.
func tells[T comparable](t *testing.T, what string, got []T, want ...T) {
	t.Helper()
	if !slices.Equal(got, want) {
		t.Errorf("%s: %v, not %v", what, got, want)
	}
}

// tellsBatches: likewise, of batches.
func tellsBatches(t *testing.T, what string, got []wal.Batch, want ...wal.Batch) {
	t.Helper()
	if !slices.EqualFunc(got, want, alike) {
		t.Errorf("%s: %v, not %v", what, got, want)
	}
}

func alike(a, b wal.Batch) bool {
	return a.Seq == b.Seq && a.Tick == b.Tick && a.Budget == b.Budget && slices.Equal(a.Facts, b.Facts)
}

func text(n int64) string {
	return strconv.FormatInt(n, 10)
}

// between: a range of hours, as text.
func between(from, to int64) string {
	return "from " + text(from) + " to " + text(to)
}

func factOf(hour, value int64, texts ...string) api.Fact {
	f := api.Fact{Key: api.Key{Hour: hour}, Value: value}
	copy(f.Key.Dims[:], texts)
	return f
}

// batchOf: a batch with a fact of each hour; no other fact of no other batch has its value, but in one of the same Seq.
func batchOf(seq int64, hours ...int64) wal.Batch {
	b := wal.Batch{Seq: seq, Tick: seq%7 + 2, Budget: seq%1000 + 3}
	for i, hour := range hours {
		b.Facts = append(b.Facts, factOf(hour, seq%1000000*100+int64(i), "a"))
	}
	return b
}

// only: a batch with but those of its facts that stand at these places.
func only(b wal.Batch, places ...int) wal.Batch {
	var facts []api.Fact
	for _, at := range places {
		facts = append(facts, b.Facts[at])
	}
	b.Facts = facts
	return b
}

// times: a list of n facts that are alike.
func times(n int, f api.Fact) []api.Fact {
	return slices.Repeat([]api.Fact{f}, n)
}

// factsOf: all batches' facts, one batch behind the other.
func factsOf(l ...wal.Batch) []api.Fact {
	var facts []api.Fact
	for _, b := range l {
		facts = append(facts, b.Facts...)
	}
	return facts
}

// none: a Mem without a batch.
func none(t *testing.T, dims int) *Mem {
	t.Helper()
	m, fault := New(dims)
	same(t, "New of "+strconv.Itoa(dims), fault, api.OK)
	return m
}

// of: a Mem with these batches, for facts of one dimension.
func of(t *testing.T, l ...wal.Batch) *Mem {
	t.Helper()
	m := none(t, 1)
	for _, b := range l {
		adds(t, "Add ahead", m, b, api.OK)
	}
	return m
}

func adds(t *testing.T, what string, m *Mem, b wal.Batch, want api.Fault) {
	t.Helper()
	same(t, what+": its fault", m.Add(b), want)
}

// refuses fails the test where Add has not that fault, or anything has changed behind it.
func refuses(t *testing.T, what string, m *Mem, b wal.Batch, want api.Fault) {
	t.Helper()
	had, bytes := m.Batches(), m.Bytes()
	adds(t, what, m, b, want)
	tellsBatches(t, what+", behind it", m.Batches(), had...)
	same(t, what+", Bytes behind it", m.Bytes(), bytes)
}

// holds fails the test where m has anything but these batches, or tells them otherwise than the chapter says.
func holds(t *testing.T, what string, m *Mem, want ...wal.Batch) {
	t.Helper()
	tellsBatches(t, what+": Batches", m.Batches(), want...)
	same(t, what+": Bytes", m.Bytes(), bytesAs(want, dimsOf(m)))
	facts := factsOf(want...)
	tells(t, what+": Facts", m.Facts(least, greatest), facts...)
	tells(t, what+": Facts of all hours", m.Facts(0, topHour+1), facts...)
	same(t, what+": Has", m.Has(least, greatest), len(facts) > 0)
	hours := hoursAs(facts)
	tells(t, what+": Hours", m.Hours(), hours...)
	for _, hour := range hours {
		same(t, what+": Has of hour "+text(hour), m.Has(hour, hour+1), true)
		same(t, what+": Has of none of hour "+text(hour), m.Has(hour, hour), false)
	}
}

// dimsOf: for how many dimensions a Mem was made.
func dimsOf(m *Mem) int {
	if m == nil {
		return 0
	}
	return m.dims
}

// --- The chapter's words, reckoned another way: fact by fact, each with its batch's numbers.

type item struct {
	seq, tick, budget int64
	fact              api.Fact
}

type model struct {
	dims int
	last int64
	kept []item
}

func rightAs(b wal.Batch, dims int) bool {
	in := func(n, from, to int64) bool { return from <= n && n <= to }
	right := in(int64(dims), 1, 4) && in(b.Seq, 1, topSeq) && in(b.Tick, 0, topTick) && in(b.Budget, 0, topSeq) && in(int64(len(b.Facts)), 1, 50)
	for _, f := range b.Facts {
		right = right && in(f.Key.Hour, 0, topHour) && in(f.Value, -topValue, topValue)
		for i, s := range f.Key.Dims {
			right = right && len(s) <= 16 && (i < dims || s == "")
		}
	}
	return right
}

// apart: another model, alike.
func (m model) apart() model {
	m.kept = slices.Clone(m.kept)
	return m
}

func (m *model) add(b wal.Batch) api.Fault {
	switch {
	case !rightAs(b, m.dims):
		return api.BadArg
	case b.Seq <= m.last:
		return api.Twice
	}
	m.last = b.Seq
	for _, f := range b.Facts {
		m.kept = append(m.kept, item{b.Seq, b.Tick, b.Budget, f})
	}
	return api.OK
}

func (m *model) drop(from, to int64) int {
	had := len(m.kept)
	m.kept = slices.DeleteFunc(m.kept, func(i item) bool {
		hour := i.fact.Key.Hour
		return hour >= from && hour < to
	})
	return had - len(m.kept)
}

func (m *model) skip(entries []api.Entry, floor int64) int {
	had := len(m.kept)
	m.kept = slices.DeleteFunc(m.kept, func(i item) bool {
		hour := i.fact.Key.Hour
		return hour < floor || slices.ContainsFunc(entries, func(e api.Entry) bool {
			from, to := spanAs(e.Part)
			return hour >= from && hour < to && e.Mark >= i.seq
		})
	})
	return had - len(m.kept)
}

func (m model) batches() []wal.Batch {
	var l []wal.Batch
	for _, i := range m.kept {
		if len(l) == 0 || l[len(l)-1].Seq != i.seq {
			l = append(l, wal.Batch{Seq: i.seq, Tick: i.tick, Budget: i.budget})
		}
		last := &l[len(l)-1]
		last.Facts = append(last.Facts, i.fact)
	}
	return l
}

func (m model) facts(from, to int64) []api.Fact {
	var facts []api.Fact
	for _, i := range m.kept {
		if hour := i.fact.Key.Hour; hour >= from && hour < to {
			facts = append(facts, i.fact)
		}
	}
	return facts
}

// hoursAs: the hours of facts, rising, each once.
func hoursAs(facts []api.Fact) []int64 {
	var hours []int64
	for _, f := range facts {
		if at, is := slices.BinarySearch(hours, f.Key.Hour); !is {
			hours = slices.Insert(hours, at, f.Key.Hour)
		}
	}
	return hours
}

// bytesAs: how many bytes the batches' records have, by the words of wal, frame, fact and pack.
func bytesAs(l []wal.Batch, dims int) int64 {
	n := 0
	for _, b := range l {
		p := binary.AppendUvarint(nil, uint64(b.Seq))
		p = binary.AppendUvarint(p, uint64(b.Tick))
		p = binary.AppendUvarint(p, uint64(b.Budget))
		p = binary.AppendUvarint(p, uint64(len(b.Facts)))
		for _, f := range b.Facts {
			p = binary.AppendUvarint(p, uint64(f.Key.Hour))
			for _, s := range f.Key.Dims[:dims] {
				p = append(p, byte(len(s)))
				p = append(p, s...)
			}
			p = binary.AppendVarint(p, f.Value)
		}
		n += len(binary.AppendUvarint(nil, uint64(len(p)))) + len(p) + 4
	}
	return int64(n)
}

// spanAs: a partition's span, by the library's calendar.
func spanAs(p api.Part) (int64, int64) {
	first := func(month int64) int64 {
		return time.Date(1970, time.Month(1+month), 1, 0, 0, 0, 0, time.UTC).Unix() / 3600
	}
	switch p.Tier {
	case 1:
		return p.Index, p.Index + 1
	case 2:
		return p.Index * 24, p.Index*24 + 24
	}
	return first(p.Index), first(p.Index + 1)
}

// entry: one of a partition, with that Mark.
func entry(tier int, index, mark int64) api.Entry {
	return api.Entry{Part: api.Part{Tier: tier, Index: index}, Seg: 3*index + int64(tier), Mark: mark, Rows: 5}
}

// coldEntry: likewise, of a month that is in the store of objects.
func coldEntry(month, mark int64) api.Entry {
	e := entry(3, month, mark)
	e.Cold = true
	return e
}

func catalogOf(t *testing.T, entries ...api.Entry) *catalog.Catalog {
	t.Helper()
	c := catalog.New()
	same(t, "Apply ahead", c.Apply(catalog.Edit{Put: entries}), api.OK)
	return c
}

// chance: numbers without a pattern, the same ones in each run.
type chance uint64

func (x *chance) below(n int) int {
	*x = *x*6364136223846793005 + 1442695040888963407
	return int(uint64(*x)>>33) % n
}

func oneOf[T any](x *chance, l ...T) T {
	return l[x.below(len(l))]
}

// --- P2201: New

func TestNewOfDimensionsThatMayBe(t *testing.T) {
	for dims := 1; dims <= 4; dims++ {
		m, fault := New(dims)
		same(t, "New of "+strconv.Itoa(dims), fault, api.OK)
		if m == nil {
			t.Fatal("New answers nil without a fault")
		}
		holds(t, "a new one", m)
	}
}

func TestNewOfDimensionsThatMayNotBe(t *testing.T) {
	for _, dims := range []int{0, 5, 6, -1, -2, -4, 255, 256, 257, 1 << 32, 1<<32 + 1, 1<<32 + 4, math.MinInt, math.MinInt + 1, math.MaxInt - 1, math.MaxInt} {
		m, fault := New(dims)
		same(t, "New of "+strconv.Itoa(dims), fault, api.BadArg)
		same(t, "whether New of "+strconv.Itoa(dims)+" answers one", m != nil, false)
	}
}

// Each New is another one.
func TestNewAnswersAnotherOne(t *testing.T) {
	one, other := none(t, 1), none(t, 1)
	adds(t, "Add to the one", one, batchOf(5, 3), api.OK)
	holds(t, "the other", other)
	adds(t, "Add to the other", other, batchOf(4, 8), api.OK)
	holds(t, "the one", one, batchOf(5, 3))
	holds(t, "the other", other, batchOf(4, 8))
}

// --- P2201: Add

func TestTheExample(t *testing.T) {
	m := of(t, batchOf(1, 3, 5))
	tells(t, "Hours", m.Hours(), 3, 5)
	same(t, "Drop", m.Drop(0, 4), 1)
	tells(t, "Hours behind it", m.Hours(), 5)
	holds(t, "all that is left", m, only(batchOf(1, 3, 5), 1))
}

func TestAddOfBatchesThatRise(t *testing.T) {
	m := none(t, 1)
	var want []wal.Batch
	for _, seq := range []int64{1, 2, 3, 5, 8, 127, 128, 1 << 32, topSeq - 1, topSeq} {
		want = append(want, batchOf(seq, seq%5, 9, seq%11))
		adds(t, "Add of Seq "+text(seq), m, want[len(want)-1], api.OK)
		holds(t, "up to Seq "+text(seq), m, want...)
	}
}

func TestAddOfTheFirstBatchOfEachSeq(t *testing.T) {
	for _, seq := range []int64{1, 2, 100, topSeq - 1, topSeq} {
		holds(t, "Seq "+text(seq)+" alone", of(t, batchOf(seq, 7)), batchOf(seq, 7))
	}
}

// wrongNumbers: batches that are wrong in a number alone, or in several.
func wrongNumbers() []wal.Batch {
	facts := batchOf(7, 3, 5).Facts
	var l []wal.Batch
	for _, seq := range []int64{least, least + 1, -topSeq, -1, 0, topSeq + 1, topSeq + 2, greatest - 1, greatest} {
		l = append(l, wal.Batch{Seq: seq, Tick: 2, Budget: 3, Facts: facts})
	}
	for _, tick := range []int64{least, -topTick, -60, -1, topTick + 1, topTick + 60, 1 << 32, topSeq, greatest} {
		l = append(l, wal.Batch{Seq: 7, Tick: tick, Budget: 3, Facts: facts})
	}
	for _, budget := range []int64{least, least + 1, -topSeq, -1, topSeq + 1, greatest - 1, greatest} {
		l = append(l, wal.Batch{Seq: 7, Tick: 2, Budget: budget, Facts: facts})
	}
	return append(l, wal.Batch{}, wal.Batch{Seq: 7, Tick: -1, Budget: -1, Facts: facts}, wal.Batch{Facts: facts}, wal.Batch{Tick: 2, Budget: 3, Facts: facts})
}

// wrongFacts: facts that are not right for two dimensions.
func wrongFacts() []api.Fact {
	long := strings.Repeat("x", 17)
	return []api.Fact{
		factOf(-1, 1), factOf(-24, 1), factOf(least, 1), factOf(topHour+1, 1), factOf(1<<32+5, 1), factOf(greatest, 1),
		factOf(1, topValue+1), factOf(1, -topValue-1), factOf(1, greatest), factOf(1, least),
		factOf(1, 1, long), factOf(1, 1, "", long), factOf(1, 1, strings.Repeat("x", 256)),
		factOf(1, 1, "", "", "c"), factOf(1, 1, "", "", "", "d"),
	}
}

// wrongBatches: batches that are not right for two dimensions.
func wrongBatches() []wal.Batch {
	l := wrongNumbers()
	with := func(facts []api.Fact) {
		l = append(l, wal.Batch{Seq: 7, Tick: 2, Budget: 3, Facts: facts})
	}
	with(nil)
	with([]api.Fact{})
	with(times(51, factOf(3, 1)))
	with(times(100, factOf(3, 1)))
	with(times(256+50, factOf(3, 1)))
	for _, f := range wrongFacts() {
		with([]api.Fact{f})
		with([]api.Fact{f, factOf(3, 1)})
		with([]api.Fact{factOf(3, 1), f, factOf(3, 1)})
		with(append(times(49, factOf(3, 1)), f))
	}
	return l
}

// What is refused changes nothing, and its Seq is not that of the last one that was added.
func TestAddOfBatchesThatAreNotRight(t *testing.T) {
	for _, b := range wrongBatches() {
		m := none(t, 2)
		refuses(t, "a wrong one as the first one", m, b, api.BadArg)
		adds(t, "one of Seq 1 behind it", m, batchOf(1, 9), api.OK)
		refuses(t, "a wrong one behind another one", m, b, api.BadArg)
		adds(t, "one of Seq 2 behind it", m, batchOf(2, 4), api.OK)
		holds(t, "all", m, batchOf(1, 9), batchOf(2, 4))
	}
}

func TestAddOfBatchesThatAreNotRightAndNotAbove(t *testing.T) {
	for _, b := range wrongBatches() {
		for _, seq := range []int64{6, 7, 8, topSeq} {
			m := none(t, 2)
			adds(t, "one ahead", m, batchOf(seq, 9), api.OK)
			refuses(t, "a wrong one behind Seq "+text(seq), m, b, api.BadArg)
			holds(t, "behind it", m, batchOf(seq, 9))
		}
	}
}

// atEdges: batches that are right for two dimensions, with each thing at its edges.
func atEdges() []wal.Batch {
	wide := strings.Repeat("\xff", 16)
	facts := []api.Fact{factOf(0, topValue), factOf(topHour, -topValue, wide, wide), factOf(7, 0, "", "b")}
	return []wal.Batch{
		{Seq: 1, Facts: []api.Fact{{}}},
		{Seq: 2, Tick: topTick, Facts: facts},
		{Seq: 3, Tick: topTick - 1, Budget: 1, Facts: facts[1:]},
		{Seq: 4, Budget: topSeq, Facts: times(50, facts[1])},
		{Seq: 5, Tick: 1, Budget: topSeq - 1, Facts: times(49, facts[0])},
		{Seq: topSeq - 1, Tick: topTick, Budget: topSeq, Facts: times(50, facts[1])},
		{Seq: topSeq, Facts: facts[2:]},
	}
}

func TestAddOfBatchesAtTheirEdges(t *testing.T) {
	m := none(t, 2)
	for i, b := range atEdges() {
		adds(t, "Seq "+text(b.Seq), m, b, api.OK)
		holds(t, "up to Seq "+text(b.Seq), m, atEdges()[:i+1]...)
	}
	for _, b := range atEdges() {
		one := none(t, 2)
		adds(t, "Seq "+text(b.Seq)+" alone", one, b, api.OK)
		holds(t, "Seq "+text(b.Seq)+" alone", one, b)
	}
}

// A batch is held to be right for just as many dimensions as New was told.
func TestAddForEachNumberOfDimensions(t *testing.T) {
	for dims := 1; dims <= 4; dims++ {
		m := none(t, dims)
		var want []wal.Batch
		for used := range 5 {
			b := wal.Batch{Seq: int64(used) + 1, Tick: 3, Budget: 4, Facts: []api.Fact{factOf(8, 2, []string{"p", "qu", "", "rst"}[:used]...)}}
			if used == 3 {
				b.Facts[0].Key.Dims[2] = strings.Repeat("z", 16)
			}
			if used > dims {
				refuses(t, "more dimensions than "+strconv.Itoa(dims), m, b, api.BadArg)
				continue
			}
			adds(t, "dimensions up to "+strconv.Itoa(dims), m, b, api.OK)
			want = append(want, b)
			holds(t, "behind it", m, want...)
		}
	}
}

func TestAddOfASeqThatIsNotAbove(t *testing.T) {
	for _, last := range []int64{1, 2, 9, 128, topSeq - 1, topSeq} {
		m := of(t, batchOf(last, 3, 5))
		for _, seq := range []int64{1, last / 2, last - 1, last} {
			if seq > 0 {
				refuses(t, "Seq "+text(seq)+" behind "+text(last), m, batchOf(seq, 8), api.Twice)
			}
		}
		refuses(t, "the same one again", m, batchOf(last, 3, 5), api.Twice)
		if last < topSeq {
			adds(t, "one above", m, batchOf(last+1, 4), api.OK)
			holds(t, "behind it", m, batchOf(last, 3, 5), batchOf(last+1, 4))
			refuses(t, "the one ahead of it again", m, batchOf(last, 4), api.Twice)
		}
	}
}

// Only the last one that was added counts, not one that was refused since.
func TestAddBehindWhatWasRefused(t *testing.T) {
	m := of(t, batchOf(4, 3))
	refuses(t, "below", m, batchOf(2, 3), api.Twice)
	refuses(t, "below, but above what was refused", m, batchOf(3, 3), api.Twice)
	refuses(t, "the same", m, batchOf(4, 3), api.Twice)
	refuses(t, "above, but not right", m, batchOf(9), api.BadArg)
	adds(t, "above, but below what was refused", m, batchOf(5, 3), api.OK)
	holds(t, "behind it", m, batchOf(4, 3), batchOf(5, 3))
}

// However the last one's facts went, its Seq stays the one to be above.
func TestAddOfASeqThatIsNotAboveOneThatIsGone(t *testing.T) {
	goes := map[string]func(m *Mem) int{
		"Drop":                func(m *Mem) int { return m.Drop(3, 6) },
		"Drop, hour by hour":  func(m *Mem) int { return m.Drop(3, 4) + m.Drop(5, 6) },
		"Skip by floor":       func(m *Mem) int { return m.Skip(nil, 6) },
		"Skip by the catalog": func(m *Mem) int { return m.Skip(catalogOf(t, entry(2, 0, 7)), 0) },
	}
	for what, all := range goes {
		m := of(t, batchOf(7, 3, 5))
		same(t, what, all(m), 2)
		holds(t, what, m)
		for _, seq := range []int64{1, 6, 7} {
			refuses(t, what+", then Seq "+text(seq), m, batchOf(seq, 3), api.Twice)
		}
		refuses(t, what+", then one that is not right", m, batchOf(7), api.BadArg)
		adds(t, what+", then one above", m, batchOf(8, 3), api.OK)
		holds(t, what+", and one above", m, batchOf(8, 3))
	}
	m := of(t, batchOf(2, 9), batchOf(7, 3, 5))
	same(t, "Drop of the last one alone", m.Drop(3, 6), 2)
	refuses(t, "between the one that is there and the one that is gone", m, batchOf(3, 1), api.Twice)
	refuses(t, "the one that is gone", m, batchOf(7, 3, 5), api.Twice)
	adds(t, "one above", m, batchOf(8, 3), api.OK)
	holds(t, "behind it", m, batchOf(2, 9), batchOf(8, 3))
}

// --- P2201: Batches, Bytes

func TestBytesAreThoseOfTheRecordsThatWalMakes(t *testing.T) {
	for dims := 1; dims <= 4; dims++ {
		x := chance(dims)
		m := none(t, dims)
		same(t, "Bytes of none", m.Bytes(), 0)
		for seq := range int64(60) {
			adds(t, "Add", m, x.batch(seq+1, dims), api.OK)
			if x.below(4) == 0 {
				m.Drop(int64(x.below(40)), int64(x.below(40)))
			}
			records, fault := wal.Bytes(m.Batches(), dims)
			same(t, "wal's fault", fault, api.OK)
			same(t, "Bytes", m.Bytes(), int64(len(records)))
			back, n := wal.Replay(records, dims)
			same(t, "bytes that are replayed", n, len(records))
			tellsBatches(t, "what is replayed", back, m.Batches()...)
		}
	}
}

// batch: one that is right, of hours below 40 mostly.
func (x *chance) batch(seq int64, dims int) wal.Batch {
	b := wal.Batch{Seq: seq, Tick: oneOf(x, int64(0), 1, 127, 128, topTick), Budget: oneOf(x, int64(0), 127, 128, 1<<40, topSeq)}
	for range oneOf(x, 1, 1, 2, 3, 5, 50) {
		f := factOf(int64(x.below(40)), oneOf(x, int64(0), 1, -1, 63, -65, topValue, -topValue))
		if x.below(20) == 0 {
			f.Key.Hour = oneOf(x, int64(0), 127, 128, 743, 744, topHour-1, topHour)
		}
		for d := range dims {
			f.Key.Dims[d] = oneOf(x, "", "a", "ab", "\x80", "\xff\x00", "€", strings.Repeat("z", 16))
		}
		b.Facts = append(b.Facts, f)
	}
	return b
}

func TestBytesOfRecordsCountedByHand(t *testing.T) {
	m := none(t, 1)
	adds(t, "Add", m, wal.Batch{Seq: 1, Tick: 2, Budget: 3, Facts: []api.Fact{factOf(5, -1, "a")}}, api.OK)
	same(t, "wal's example", m.Bytes(), 13) // 1 of the length, 3 numbers, 5 of the facts, 4 of the check
	adds(t, "Add", m, wal.Batch{Seq: 128, Tick: 0, Budget: 0, Facts: []api.Fact{factOf(5, 64), factOf(200, 0, "bc")}}, api.OK)
	same(t, "and another one", m.Bytes(), 13+20) // 1 of the length, 4 of the numbers, 1 and 4 and 6 of the facts, 4 of the check
	same(t, "Drop of a fact", m.Drop(200, 201), 1)
	same(t, "a fact less", m.Bytes(), 13+14)
	same(t, "Drop of the last fact of a batch", m.Drop(5, 6), 2)
	same(t, "no record", m.Bytes(), 0)
}

func TestBatchesOfWhichSomeFactsAreGone(t *testing.T) {
	a, b, c := batchOf(3, 4, 5, 6), batchOf(5, 6, 5, 4), batchOf(8, 5, 5)
	l := []wal.Batch{a, b, c}
	for _, d := range []struct {
		from, to int64
		want     []wal.Batch
	}{
		{4, 5, []wal.Batch{only(a, 1, 2), only(b, 0, 1), c}},
		{5, 6, []wal.Batch{only(a, 0, 2), only(b, 0, 2)}},
		{6, 7, []wal.Batch{only(a, 0, 1), only(b, 1, 2), c}},
		{4, 6, []wal.Batch{only(a, 2), only(b, 0)}},
		{5, 7, []wal.Batch{only(a, 0), only(b, 2)}},
		{4, 7, nil},
		{7, 9, l},
	} {
		m := of(t, l...)
		m.Drop(d.from, d.to)
		holds(t, "without hours "+between(d.from, d.to), m, d.want...)
	}
}

// A batch's Tick and Budget stay as they came, whatever of it is gone.
func TestBatchesKeepTheirNumbers(t *testing.T) {
	b := wal.Batch{Seq: topSeq, Tick: topTick, Budget: topSeq, Facts: batchOf(1, 3, 4, 5).Facts}
	m := of(t, b)
	holds(t, "as it came", m, b)
	for i, hour := range []int64{4, 3} {
		m.Drop(hour, hour+1)
		got := m.Batches()
		same(t, "batches", len(got), 1)
		same(t, "Seq", got[0].Seq, topSeq)
		same(t, "Tick", got[0].Tick, topTick)
		same(t, "Budget", got[0].Budget, topSeq)
		same(t, "facts", len(got[0].Facts), 2-i)
	}
}

// Facts that are alike, of one key and value, are facts of their own.
func TestFactsThatAreAlike(t *testing.T) {
	f := factOf(3, 9, "a")
	one := wal.Batch{Seq: 1, Tick: 1, Budget: 1, Facts: []api.Fact{f, f, factOf(4, 9, "a"), f}}
	two := wal.Batch{Seq: 2, Tick: 1, Budget: 1, Facts: []api.Fact{f}}
	m := of(t, one, two)
	holds(t, "all", m, one, two)
	tells(t, "Facts", m.Facts(3, 4), f, f, f, f)
	same(t, "Drop", m.Drop(3, 4), 4)
	holds(t, "behind it", m, only(one, 2))
}
