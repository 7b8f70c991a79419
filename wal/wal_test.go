package wal

import (
	"bytes"
	"encoding/binary"
	"hash/crc32"
	"math"
	"slices"
	"strconv"
	"strings"
	"testing"

	"ossuary/api"
)

const (
	least    = math.MinInt64
	greatest = math.MaxInt64
	topSeq   = 1 << 62
	topTick  = 60 * (1<<24 + 1)
	topHour  = 1 << 24
	topValue = 1 << 60
)

// same fails the test where got is not what the chapter says.
func same[T comparable](t *testing.T, what string, got, want T) {
	t.Helper()
	if got != want {
		t.Errorf("%s: %v, not %v", what, got, want)
	}
}

// sameBytes: likewise, of bytes.
func sameBytes(t *testing.T, what string, got, want []byte) {
	t.Helper()
	if !bytes.Equal(got, want) {
		t.Errorf("%s: % X, not % X", what, got, want)
	}
}

// sameBatch: whether two batches are alike; a list without a fact may be nil or empty.
func sameBatch(a, b Batch) bool {
	return a.Seq == b.Seq && a.Tick == b.Tick && a.Budget == b.Budget && slices.Equal(a.Facts, b.Facts)
}

// sameBatches fails the test where got are other batches.
func sameBatches(t *testing.T, what string, got, want []Batch) {
	t.Helper()
	if !slices.EqualFunc(got, want, sameBatch) {
		t.Errorf("%s: %v, not %v", what, got, want)
	}
}

func factOf(hour, value int64, texts ...string) api.Fact {
	f := api.Fact{Key: api.Key{Hour: hour}, Value: value}
	copy(f.Key.Dims[:], texts)
	return f
}

// batchOf: a batch with a fact of each hour, no two of them with one value; its Tick and Budget hang on its Seq.
func batchOf(seq int64, hours ...int64) Batch {
	b := Batch{Seq: seq, Tick: seq%7 + 2, Budget: seq%100 + 3}
	for i, h := range hours {
		b.Facts = append(b.Facts, factOf(h, int64(i+1)))
	}
	return b
}

// times: a list of n facts that are alike.
func times(n int, f api.Fact) []api.Fact {
	return slices.Repeat([]api.Fact{f}, n)
}

// stir hands out numbers from 0 to below, without a pattern, the same ones in each run.
func stir(seed uint64) func(below int) int {
	return func(below int) int {
		seed = seed*6364136223846793005 + 1442695040888963407
		return int(seed>>33) % below
	}
}

// some: n facts that are right for so many dimensions, without a pattern.
func some(n, dims int, throw func(int) int) []api.Fact {
	hours := []int64{0, 1, 127, 128, topHour - 1, topHour}
	texts := []string{"", "a", "ab", "\x80", "\xff\x00", "€", strings.Repeat("z", 16)}
	values := []int64{0, 1, -1, 63, -65, topValue, -topValue}
	l := make([]api.Fact, n)
	for i := range l {
		l[i] = factOf(hours[throw(len(hours))], values[throw(len(values))])
		for d := range dims {
			l[i].Key.Dims[d] = texts[throw(len(texts))]
		}
	}
	return l
}

// rising: n batches that are right for so many dimensions, without a pattern, each one's Seq above the one ahead.
func rising(n, dims int, throw func(int) int) []Batch {
	steps := []int64{1, 1, 1, 2, 126, 1 << 40}
	ticks := []int64{0, 1, 127, 128, 1 << 20, topTick - 1, topTick}
	budgets := []int64{0, 1, 127, 128, 1 << 40, topSeq - 1, topSeq}
	l := make([]Batch, n)
	seq := int64(0)
	for i := range l {
		seq += steps[throw(len(steps))]
		l[i] = Batch{seq, ticks[throw(len(ticks))], budgets[throw(len(budgets))], some(1+throw(4), dims, throw)}
	}
	return l
}

// num and nums: numbers' bytes, made another way than by the program.
func num(n uint64) []byte {
	return binary.AppendUvarint(nil, n)
}

func nums(l ...uint64) []byte {
	var b []byte
	for _, n := range l {
		b = binary.AppendUvarint(b, n)
	}
	return b
}

// long: a number in one byte more than it needs.
func long(n uint64) []byte {
	b := num(n)
	b[len(b)-1] |= 0x80
	return append(b, 0)
}

// factsOf: facts' bytes, right or not.
func factsOf(l []api.Fact, dims int) []byte {
	b := num(uint64(len(l)))
	for _, f := range l {
		b = append(b, num(uint64(f.Key.Hour))...)
		for _, s := range f.Key.Dims[:dims] {
			b = append(append(b, num(uint64(len(s)))...), s...)
		}
		b = binary.AppendVarint(b, f.Value)
	}
	return b
}

// payloadOf: a batch's payload by the chapter's words, right or not.
func payloadOf(b Batch, dims int) []byte {
	return append(nums(uint64(b.Seq), uint64(b.Tick), uint64(b.Budget)), factsOf(b.Facts, dims)...)
}

// framed: p's frame.
func framed(p []byte) []byte {
	b := append(num(uint64(len(p))), p...)
	return binary.LittleEndian.AppendUint32(b, crc32.ChecksumIEEE(p))
}

// recordOf: a batch's record by the chapter's words, right or not.
func recordOf(b Batch, dims int) []byte {
	return framed(payloadOf(b, dims))
}

// roomyBytes: b with spare room behind it, and a check that neither changed.
func roomyBytes(t *testing.T, b []byte) ([]byte, func(what string)) {
	whole := append(slices.Clone(b), "spare"...)
	kept := slices.Clone(whole)
	return whole[:len(b)], func(what string) {
		t.Helper()
		sameBytes(t, what+": what was handed in", whole, kept)
	}
}

// roomyFacts: likewise, of facts.
func roomyFacts(t *testing.T, l []api.Fact) ([]api.Fact, func(what string)) {
	whole := append(slices.Clone(l), times(3, factOf(-9, -9, "spare"))...)
	kept := slices.Clone(whole)
	return whole[:len(l)], func(what string) {
		t.Helper()
		if !slices.Equal(whole, kept) {
			t.Errorf("%s: what was handed in: %v, not %v", what, whole, kept)
		}
	}
}

// roomy: likewise, of batches, and of the facts of each.
func roomy(t *testing.T, l []Batch) ([]Batch, func(what string)) {
	var checks []func(what string)
	whole := slices.Concat(l, []Batch{batchOf(-9, 4), batchOf(-8), batchOf(-7, 5)})
	kept := slices.Clone(whole)
	for i, b := range whole {
		facts, unchanged := roomyFacts(t, b.Facts)
		whole[i].Facts = facts
		checks = append(checks, unchanged)
	}
	return whole[:len(l)], func(what string) {
		t.Helper()
		sameBatches(t, what+": what was handed in", whole, kept)
		for _, unchanged := range checks {
			unchanged(what)
		}
	}
}

// wrongDims: numbers of dimensions that can't be.
func wrongDims() []int {
	return []int{math.MinInt, -4, -1, 0, 5, 6, 256, 257, math.MaxInt}
}

// dimsOf: a number of dimensions, as text.
func dimsOf(dims int) string {
	return "dims " + strconv.Itoa(dims)
}

// --- P1701: Right, Record

// edge: a number, and whether a batch may have it.
type edge struct {
	n  int64
	is bool
}

func edgesOfSeq() []edge {
	return []edge{
		{least, false}, {least + 1, false}, {-topSeq, false}, {-1, false}, {0, false},
		{1, true}, {2, true}, {127, true}, {128, true}, {1 << 32, true}, {topSeq - 1, true}, {topSeq, true},
		{topSeq + 1, false}, {topSeq + 2, false}, {greatest - 1, false}, {greatest, false},
	}
}

func edgesOfTick() []edge {
	return []edge{
		{least, false}, {-topTick, false}, {-60, false}, {-1, false},
		{0, true}, {1, true}, {59, true}, {60, true}, {128, true}, {topHour, true}, {60 * topHour, true}, {topTick - 1, true}, {topTick, true},
		{topTick + 1, false}, {topTick + 60, false}, {1 << 31, false}, {1 << 32, false}, {topSeq, false}, {greatest, false},
	}
}

func edgesOfBudget() []edge {
	return []edge{
		{least, false}, {least + 1, false}, {-topSeq, false}, {-1, false},
		{0, true}, {1, true}, {127, true}, {128, true}, {topValue, true}, {topValue + 1, true}, {topSeq - 1, true}, {topSeq, true},
		{topSeq + 1, false}, {greatest - 1, false}, {greatest, false},
	}
}

// records: Right, and Record, of a batch that is right or not, and that they change nothing.
func records(t *testing.T, what string, b Batch, dims int, right bool) {
	t.Helper()
	facts, unchanged := roomyFacts(t, b.Facts)
	b.Facts = facts
	same(t, what+": Right", Right(b, dims), right)
	record, fault := Record(b, dims)
	if right {
		same(t, what+": Record's fault", fault, api.OK)
		sameBytes(t, what+": Record", record, recordOf(b, dims))
	} else {
		same(t, what+": Record's fault", fault, api.BadArg)
		sameBytes(t, what+": Record", record, nil)
	}
	unchanged(what)
}

func TestRecordOfTheExample(t *testing.T) {
	b := Batch{Seq: 1, Tick: 2, Budget: 3, Facts: []api.Fact{factOf(5, -1, "a")}}
	record, fault := Record(b, 1)
	same(t, "the example: fault", fault, api.OK)
	sameBytes(t, "the example", record, []byte("\x08\x01\x02\x03\x01\x05\x01a\x01\xB5\x65\x1E\xB8"))
	same(t, "the example: Right", Right(b, 1), true)
}

func TestRecordOfNumbersAtTheirEdges(t *testing.T) {
	facts := []api.Fact{factOf(5, -1, "a", "b")}
	for _, seq := range edgesOfSeq() {
		for _, tick := range edgesOfTick() {
			for _, budget := range edgesOfBudget() {
				right := seq.is && tick.is && budget.is
				b := Batch{seq.n, tick.n, budget.n, facts}
				what := strconv.FormatInt(seq.n, 10) + " " + strconv.FormatInt(tick.n, 10) + " " + strconv.FormatInt(budget.n, 10)
				records(t, what, b, 2, right)
				b.Facts = nil
				records(t, what+", no fact", b, 2, false)
				records(t, what+", no dimension", Batch{seq.n, tick.n, budget.n, facts}, 0, false)
			}
		}
	}
}

// A batch's budget is not held against its facts, nor its tick against their hours.
func TestRecordOfNumbersThatHaveNothingToDoWithEachOther(t *testing.T) {
	facts := times(50, factOf(topHour, topValue))
	records(t, "nothing spent, at tick 0", Batch{1, 0, 0, facts}, 1, true)
	records(t, "all spent, late", Batch{topSeq, topTick, topSeq, []api.Fact{factOf(0, 0)}}, 1, true)
}

// wrongFacts: facts that are not right for two dimensions.
func wrongFacts() []api.Fact {
	return []api.Fact{
		factOf(-1, 1), factOf(least, 1), factOf(topHour+1, 1), factOf(greatest, 1),
		factOf(1, topValue+1), factOf(1, -topValue-1), factOf(1, greatest), factOf(1, least),
		factOf(1, 1, strings.Repeat("x", 17)), factOf(1, 1, "", strings.Repeat("x", 17)),
		factOf(1, 1, "", "", "c"), factOf(1, 1, "", "", "", "d"),
	}
}

func TestRecordOfFacts(t *testing.T) {
	right := []api.Fact{factOf(0, topValue), factOf(topHour, -topValue, strings.Repeat("x", 16), strings.Repeat("\xff", 16)), factOf(7, 0, "", "b")}
	records(t, "right facts", Batch{1, 2, 3, right}, 2, true)
	records(t, "one dimension too few", Batch{1, 2, 3, right}, 1, false)
	records(t, "dimensions that are not used", Batch{1, 2, 3, right}, 3, true)
	records(t, "nil", Batch{1, 2, 3, nil}, 2, false)
	records(t, "no fact", Batch{1, 2, 3, []api.Fact{}}, 2, false)
	for n := 1; n <= 60; n++ {
		records(t, strconv.Itoa(n)+" facts", Batch{1, 2, 3, times(n, right[1])}, 2, n <= 50)
	}
	records(t, "many facts", Batch{1, 2, 3, times(257, right[1])}, 2, false)
	for _, f := range wrongFacts() {
		for at := range len(right) + 1 {
			records(t, "a wrong fact", Batch{1, 2, 3, slices.Insert(slices.Clone(right), at, f)}, 2, false)
		}
		records(t, "the last one of many is wrong", Batch{1, 2, 3, append(times(49, right[0]), f)}, 2, false)
	}
}

func TestRecordForEachDims(t *testing.T) {
	for _, dims := range wrongDims() {
		for _, b := range []Batch{batchOf(1, 5), batchOf(0, 5), batchOf(1), {}} {
			records(t, dimsOf(dims), b, dims, false)
		}
	}
	for used := range api.Dims + 1 {
		f := factOf(5, 1)
		for d := range used {
			f.Key.Dims[d] = "text"
		}
		for dims := 1; dims <= api.Dims; dims++ {
			records(t, dimsOf(dims), Batch{1, 2, 3, []api.Fact{f, f}}, dims, used <= dims)
		}
	}
	for dims := 1; dims <= api.Dims; dims++ {
		for i, b := range rising(40, dims, stir(uint64(dims))) {
			records(t, dimsOf(dims)+", "+strconv.Itoa(i), b, dims, true)
		}
		records(t, "the greatest record", Batch{topSeq, topTick, topSeq, times(50, greatestFact(dims))}, dims, true)
	}
}

// greatestFact: one whose bytes are as many as can be.
func greatestFact(dims int) api.Fact {
	f := factOf(topHour, -topValue)
	for d := range dims {
		f.Key.Dims[d] = strings.Repeat("\xff", 16)
	}
	return f
}

func TestRecordAnswersNewBytes(t *testing.T) {
	b := batchOf(1, 4, 5)
	first, _ := Record(b, 1)
	want := slices.Clone(first)
	for i := range first {
		first[i] = 0xEE
	}
	_ = append(first[:1], 7, 7, 7)
	again, _ := Record(b, 1)
	sameBytes(t, "again", again, want)
	b.Facts[0].Value = 77
	sameBytes(t, "behind a change of the facts", again, want)
}
