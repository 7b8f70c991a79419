package wal

import (
	"slices"
	"strconv"
	"testing"

	"ossuary/api"
)

// replays: what Replay answers, and that it changes nothing.
func replays(t *testing.T, what string, data []byte, dims int, want []Batch, n int) {
	t.Helper()
	data, unchanged := roomyBytes(t, data)
	l, whole := Replay(data, dims)
	sameBatches(t, what+": Replay", l, want)
	same(t, what+": how many bytes", whole, n)
	unchanged(what)
}

// stream: the records of batches, and where each one ends.
func stream(l []Batch, dims int) ([]byte, []int) {
	var data []byte
	var ends []int
	for _, b := range l {
		data = append(data, recordOf(b, dims)...)
		ends = append(ends, len(data))
	}
	return data, ends
}

// --- P1702: Replay

func TestReplayOfNoBytes(t *testing.T) {
	for dims := 1; dims <= api.Dims; dims++ {
		replays(t, "nil", nil, dims, nil, 0)
		replays(t, "no bytes", []byte{}, dims, nil, 0)
	}
}

func TestReplayOfOneRecord(t *testing.T) {
	for dims := 1; dims <= api.Dims; dims++ {
		for _, seq := range []int64{1, 2, 127, 128, topSeq - 1, topSeq} {
			b := batchOf(seq, 4, 5)
			data, _ := stream([]Batch{b}, dims)
			replays(t, "one", data, dims, []Batch{b}, len(data))
		}
		b := Batch{topSeq, topTick, topSeq, times(50, greatestFact(dims))}
		data, _ := stream([]Batch{b}, dims)
		replays(t, "the greatest", data, dims, []Batch{b}, len(data))
	}
}

func TestReplayOfManyRecords(t *testing.T) {
	for _, n := range []int{2, 3, 50, 51, 1001} {
		l := rising(n, 2, stir(uint64(n)))
		data, _ := stream(l, 2)
		replays(t, strconv.Itoa(n)+" records", data, 2, l, len(data))
	}
}

func TestReplayForOtherDims(t *testing.T) {
	b := Batch{1, 2, 3, []api.Fact{factOf(5, 2, "a", "b")}}
	data, _ := stream([]Batch{b, batchOf(2, 5)}, 2)
	for _, dims := range []int{1, 3, 4} {
		replays(t, dimsOf(dims), data, dims, nil, 0)
	}
	for _, dims := range wrongDims() {
		for used := 1; used <= api.Dims; used++ {
			data, _ := stream([]Batch{batchOf(1, 4), batchOf(2, 5)}, used)
			replays(t, dimsOf(dims)+" of "+dimsOf(used), data, dims, nil, 0)
		}
		replays(t, dimsOf(dims)+", no bytes", nil, dims, nil, 0)
	}
	first := recordOf(b, 2)
	data = append(first, recordOf(batchOf(2, 5), 1)...)
	replays(t, "the second record is of other dims", data, 2, []Batch{b}, len(first))
}

// noRecords: frames of payloads that are no batch.
func noRecords() [][]byte {
	one := factsOf([]api.Fact{factOf(5, -1)}, 1)
	var l [][]byte
	for _, p := range [][]byte{
		nil, {0}, {1}, {1, 2, 3}, {0x80}, {0x81, 0}, nums(9, 2, 3), {9, 2, 3, 0}, {9, 2, 3, 51}, {9, 2, 3, 2, 5, 0, 2},
		append(nums(0, 2, 3), one...), append(nums(topSeq+1, 2, 3), one...),
		append(nums(9, topTick+1, 3), one...), append(nums(9, 2, topSeq+1), one...),
		append(payloadOf(batchOf(9, 5), 1), 0), payloadOf(batchOf(9, topHour+1), 1), recordOf(batchOf(9, 5), 1),
		payloadOf(Batch{9, 2, 3, []api.Fact{factOf(5, topValue+1)}}, 1), payloadOf(Batch{9, 2, 3, times(51, factOf(5, 1))}, 1),
		payloadOf(batchOf(9), 1), payloadOf(batchOf(9, 5), 2), make([]byte, 300),
	} {
		l = append(l, framed(p))
	}
	return l
}

// noFrames: bytes that are no frame, whatever is behind.
func noFrames() [][]byte {
	broken := recordOf(batchOf(9, 5), 1)
	broken[len(broken)-1] ^= 1
	changed := recordOf(batchOf(9, 5), 1)
	changed[2] ^= 1
	front := recordOf(batchOf(9, 5), 1)
	return [][]byte{
		broken, changed, front[1:], {0x80, 0}, {0x81, 0}, {0, 0, 0, 0, 1}, {0, 1, 0, 0, 0}, {9, 9},
		{0xFF, 0xFF, 0xFF, 0xFF, 0xFF, 0xFF, 0xFF, 0xFF, 0xFF, 2}, append(num(api.MaxFile+1), 7),
	}
}

// What is no record ends all, wherever it is, and good records behind it are not told.
func TestReplayEndsAtWhatIsNoRecord(t *testing.T) {
	l := []Batch{batchOf(1, 4), batchOf(2, 5, 5), batchOf(7, 4, 6)}
	data, ends := stream(l, 1)
	ends = append([]int{0}, ends...)
	behind := recordOf(batchOf(20, 8), 1)
	for i, b := range append(noRecords(), noFrames()...) {
		for at, end := range ends {
			what := "no record " + strconv.Itoa(i) + " at " + strconv.Itoa(at)
			replays(t, what+", in the midst", slices.Concat(data[:end], b, data[end:], behind), 1, l[:at], end)
			replays(t, what+", at the end", slices.Concat(data[:end], b), 1, l[:at], end)
			replays(t, what+", with a good record behind", slices.Concat(data[:end], b, behind), 1, l[:at], end)
		}
	}
}

func TestReplayOfBytesBehind(t *testing.T) {
	l := []Batch{batchOf(1, 4), batchOf(2, 5, 5)}
	data, _ := stream(l, 1)
	for n := range 256 {
		replays(t, "a byte behind", append(slices.Clone(data), byte(n)), 1, l, len(data))
		replays(t, "two bytes behind", append(slices.Clone(data), byte(n), byte(n)), 1, l, len(data))
	}
	for _, behind := range [][]byte{make([]byte, 4), make([]byte, 5), make([]byte, 50), []byte("\x09123456789\x26\x39\xF4\xCB"), data} {
		replays(t, "bytes behind", slices.Concat(data, behind), 1, l, len(data))
	}
}

// TestReplayOfSeqs: all rows of five numbers: as many come as rise, from the first one on.
func TestReplayOfSeqs(t *testing.T) {
	seqs := []int64{1, 2, 3, 128, topSeq}
	for way := range 5 * 5 * 5 * 5 * 5 {
		var l []Batch
		for rest := way; len(l) < 5; rest /= 5 {
			l = append(l, batchOf(seqs[rest%5], int64(len(l))))
		}
		told := 1
		for told < 5 && l[told].Seq > l[told-1].Seq {
			told++
		}
		data, ends := stream(l, 1)
		replays(t, "way "+strconv.Itoa(way), data, 1, l[:told], ends[told-1])
	}
}

func TestReplayOfSeqsThatDoNotRise(t *testing.T) {
	for _, c := range []struct {
		what string
		seqs []int64
		told int
	}{
		{"rising by one", []int64{1, 2, 3}, 3},
		{"with gaps", []int64{5, 9, 1 << 40, topSeq}, 4},
		{"the last ones there are", []int64{topSeq - 2, topSeq - 1, topSeq}, 3},
		{"staying", []int64{1, 1}, 1},
		{"staying at the top", []int64{topSeq, topSeq}, 1},
		{"falling", []int64{2, 1}, 1},
		{"falling by much", []int64{topSeq, 1}, 1},
		{"staying, then rising", []int64{4, 4, 5}, 1},
		{"falling, then above all", []int64{4, 3, 5}, 1},
		{"below the last, above the first", []int64{1, 5, 3, 6}, 2},
		{"0 at first", []int64{0, 1}, 0},
		{"0 in the midst", []int64{1, 0, 2}, 1},
		{"one beyond at the end", []int64{1, topSeq, topSeq + 1}, 2},
		{"below 0 at first", []int64{-1, 1}, 0},
	} {
		var l []Batch
		for i, seq := range c.seqs {
			l = append(l, batchOf(seq, int64(i)))
		}
		data, ends := stream(l, 1)
		replays(t, c.what, data, 1, l[:c.told], append([]int{0}, ends...)[c.told])
	}
}

// A Tick, a Budget and hours may fall, or stay, from one batch to the next.
func TestReplayAsksOnlySeqToRise(t *testing.T) {
	l := []Batch{
		{1, 9, 9, []api.Fact{factOf(9, 9)}}, {2, 8, 8, []api.Fact{factOf(8, 8)}}, {3, 8, 8, []api.Fact{factOf(8, 8)}},
		{4, 0, 0, []api.Fact{factOf(0, 0)}}, {5, topTick, topSeq, []api.Fact{factOf(3, 3), factOf(2, 2)}},
	}
	data, _ := stream(l, 1)
	replays(t, "falling", data, 1, l, len(data))
}

func TestReplayOfFramesOfManyBytes(t *testing.T) {
	l := []Batch{batchOf(1, 4), batchOf(2, 5)}
	data, _ := stream(l, 1)
	big := framed(append(payloadOf(batchOf(3, 5), 1), make([]byte, api.MaxFile-20)...))
	replays(t, "a frame that is long, and no batch", slices.Concat(data, big, recordOf(batchOf(4, 5), 1)), 1, l, len(data))
}

func TestReplayKeepsNothing(t *testing.T) {
	l := []Batch{{1, 2, 3, []api.Fact{factOf(5, -1, "a"), factOf(6, 1, "b")}}, {2, 2, 3, []api.Fact{factOf(7, 3, "c")}}}
	data, _ := stream(l, 1)
	got, _ := Replay(data, 1)
	for i := range data {
		data[i] = 'z'
	}
	sameBatches(t, "Replay, and its bytes changed", got, l)
	apart(t, "Replay", got)
	data, _ = stream(l, 1)
	replays(t, "again", data, 1, l, len(data))
}

// apart: that no two lists of facts of one answer share memory, their spare room neither.
func apart(t *testing.T, what string, l []Batch) {
	t.Helper()
	for i := range l {
		kept := make([][]api.Fact, len(l))
		for j, b := range l {
			kept[j] = slices.Clone(b.Facts)
		}
		all := l[i].Facts[:cap(l[i].Facts)]
		for k := range all {
			all[k] = factOf(-77, int64(i), "changed")
		}
		for j, b := range l {
			if j != i && !slices.Equal(b.Facts, kept[j]) {
				t.Errorf("%s: lists %d and %d share memory", what, i, j)
			}
		}
	}
}

// --- P1702: Bytes

// puts: what Bytes answers, and that it changes nothing.
func puts(t *testing.T, what string, l []Batch, dims int, want []byte, fault api.Fault) {
	t.Helper()
	l, unchanged := roomy(t, l)
	b, f := Bytes(l, dims)
	same(t, what+": Bytes' fault", f, fault)
	sameBytes(t, what+": Bytes", b, want)
	unchanged(what)
}

func TestBytesOfNoBatches(t *testing.T) {
	for dims := 1; dims <= api.Dims; dims++ {
		puts(t, "nil", nil, dims, nil, api.OK)
		puts(t, "no batch", []Batch{}, dims, nil, api.OK)
	}
}

func TestBytesOfBatches(t *testing.T) {
	for dims := 1; dims <= api.Dims; dims++ {
		for _, n := range []int{1, 2, 3, 20, 300} {
			l := rising(n, dims, stir(uint64(n)))
			data, _ := stream(l, dims)
			puts(t, strconv.Itoa(n)+" batches", l, dims, data, api.OK)
		}
	}
	l := []Batch{batchOf(3, 5), batchOf(2, 4), batchOf(2, 4), batchOf(topSeq, 1), batchOf(1, 1)}
	data, _ := stream(l, 1)
	puts(t, "batches whose Seq falls and stays", l, 1, data, api.OK)
}

func TestBytesTellsTheFirstFault(t *testing.T) {
	right := []Batch{batchOf(1, 4), batchOf(2, 5, 5), batchOf(7, 4, 6)}
	for i, b := range []Batch{
		{}, batchOf(0, 5), batchOf(-1, 5), batchOf(topSeq+1, 5), batchOf(4), batchOf(4, -1), batchOf(4, topHour+1),
		{4, -1, 3, times(1, factOf(5, 1))}, {4, topTick + 1, 3, times(1, factOf(5, 1))},
		{4, 2, -1, times(1, factOf(5, 1))}, {4, 2, topSeq + 1, times(1, factOf(5, 1))},
		{4, 2, 3, times(51, factOf(5, 1))}, {4, 2, 3, times(1, factOf(5, topValue+1))}, {4, 2, 3, times(1, factOf(5, 1, "a", "b"))},
	} {
		for at := range len(right) + 1 {
			l := slices.Insert(slices.Clone(right), at, b)
			puts(t, "wrong batch "+strconv.Itoa(i)+" at "+strconv.Itoa(at), l, 1, nil, api.BadArg)
		}
		puts(t, "a wrong batch alone", []Batch{b}, 1, nil, api.BadArg)
		puts(t, "two wrong batches", []Batch{b, right[0], b}, 1, nil, api.BadArg)
	}
	for _, dims := range wrongDims() {
		puts(t, dimsOf(dims), right, dims, nil, api.BadArg)
		puts(t, dimsOf(dims)+", one batch", right[:1], dims, nil, api.BadArg)
	}
}

// Bytes asks for nothing but what Record does: of no batches there is no fault of any dims.
func TestBytesOfNoBatchesAsksNoDims(t *testing.T) {
	for _, dims := range wrongDims() {
		puts(t, dimsOf(dims), nil, dims, nil, api.OK)
	}
}

func TestBytesAnswersNewBytes(t *testing.T) {
	l := []Batch{batchOf(1, 4, 5), batchOf(2, 6)}
	data, _ := stream(l, 1)
	first, _ := Bytes(l, 1)
	for i := range first[:cap(first)] {
		first[:cap(first)][i] = 0xEE
	}
	puts(t, "again", l, 1, data, api.OK)
	one := []Batch{batchOf(1, 4)}
	data, _ = stream(one, 1)
	again, _ := Bytes(one, 1)
	one[0].Facts[0].Value = 77
	sameBytes(t, "behind a change of the facts", again, data)
}
