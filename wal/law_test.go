package wal

import (
	"slices"
	"strconv"
	"testing"

	"ossuary/api"
)

// --- P1704

// streams: some lists of batches that rise, for so many dimensions.
func streams(dims int) [][]Batch {
	throw := stir(uint64(dims))
	long := rising(3, dims, throw)
	long[1].Facts = some(50, dims, throw)
	alike := []Batch{batchOf(1, 4), batchOf(2, 4), batchOf(3, 4), batchOf(4, 4)}
	return [][]Batch{
		{batchOf(1, 5)}, alike, long, rising(8, dims, throw), rising(25, dims, throw),
		{batchOf(topSeq-2, 0), batchOf(topSeq-1, topHour), batchOf(topSeq, 0, 0)},
	}
}

func TestWhatIsPutIsReplayedAsItWas(t *testing.T) {
	for dims := 1; dims <= api.Dims; dims++ {
		for _, l := range streams(dims) {
			data, fault := Bytes(l, dims)
			same(t, "Bytes' fault", fault, api.OK)
			replays(t, dimsOf(dims), data, dims, l, len(data))
			again, _ := Replay(data, dims)
			puts(t, "put again", again, dims, data, api.OK)
		}
	}
}

// TestRecordsThatAreCut: all batches come that are whole, in order, as they were, and no other.
func TestRecordsThatAreCut(t *testing.T) {
	for dims := 1; dims <= api.Dims; dims++ {
		for i, l := range streams(dims) {
			data, ends := stream(l, dims)
			for cut := range len(data) + 1 {
				whole, n := 0, 0
				for whole < len(l) && ends[whole] <= cut {
					n = ends[whole]
					whole++
				}
				what := "stream " + strconv.Itoa(i) + ", cut at " + strconv.Itoa(cut)
				replays(t, what, data[:cut], dims, l[:whole], n)
				if t.Failed() {
					t.Fatal(what)
				}
			}
		}
	}
}

// TestRecordsThatAreCutAndGoOn: what is written behind a cut of just the bytes that were told is told with them.
func TestRecordsThatAreCutAndGoOn(t *testing.T) {
	for _, l := range streams(1) {
		data, _ := stream(l, 1)
		next := batchOf(topSeq, 5)
		for cut := range len(data) {
			told, n := Replay(data[:cut], 1)
			on := append(slices.Clone(data[:n]), recordOf(next, 1)...)
			replays(t, "cut at "+strconv.Itoa(cut), on, 1, append(told, next), len(on))
		}
	}
}

// TestRecordsWithAByteChanged: those ahead of the change come as they were, and none that was not there.
func TestRecordsWithAByteChanged(t *testing.T) {
	for _, l := range streams(2)[:3] {
		data, ends := stream(l, 2)
		for at := range data {
			whole := 0
			for ends[whole] <= at {
				whole++
			}
			n := append([]int{0}, ends...)[whole]
			for _, by := range []byte{1, 0x80, 0xFF} {
				changed := slices.Clone(data)
				changed[at] ^= by
				replays(t, "changed at "+strconv.Itoa(at), changed, 2, l[:whole], n)
			}
		}
	}
}

// piece: bytes of a stream, and the batch that they are; Seq 0: none.
type piece struct {
	bytes []byte
	batch Batch
}

func pieces() []piece {
	var l []piece
	for _, seq := range []int64{1, 2, 3, 200} {
		b := batchOf(seq, seq+4)
		l = append(l, piece{recordOf(b, 1), b})
	}
	broken := recordOf(batchOf(2, 5), 1)
	broken[3] ^= 4
	l = append(l, piece{bytes: broken}, piece{bytes: framed(nil)}, piece{bytes: framed([]byte{4, 2, 3, 0})})
	return append(l, piece{bytes: recordOf(batchOf(0, 5), 1)}, piece{bytes: recordOf(batchOf(3, 6), 1)[:7]})
}

// TestEachRowOfPieces: rows of four pieces, right ones and wrong ones.
func TestEachRowOfPieces(t *testing.T) {
	kinds := pieces()
	rows := len(kinds) * len(kinds) * len(kinds) * len(kinds)
	for way := range rows {
		var data []byte
		var want []Batch
		n, last, ended := 0, int64(0), false
		for i, rest := 0, way; i < 4; i++ {
			p := kinds[rest%len(kinds)]
			rest /= len(kinds)
			data = append(data, p.bytes...)
			ended = ended || p.batch.Seq <= last
			if !ended {
				want, n, last = append(want, p.batch), len(data), p.batch.Seq
			}
		}
		replays(t, "way "+strconv.Itoa(way), data, 1, want, n)
		if t.Failed() {
			t.Fatalf("way %d: % X", way, data)
		}
	}
}

// TestReplayOfBytesWithoutAPattern: whatever comes, it ends, and what it tells has just those bytes.
func TestReplayOfBytesWithoutAPattern(t *testing.T) {
	throw := stir(3)
	for range 20000 {
		data := make([]byte, throw(60))
		for i := range data {
			data[i] = byte(throw(256) >> throw(8))
		}
		l, n := Replay(data, 1+throw(api.Dims))
		same(t, "batches", len(l), 0)
		same(t, "bytes", n, 0)
	}
}
