package wal

import (
	"bytes"
	"encoding/binary"
	"math"
	"slices"
	"strconv"
	"strings"
	"testing"

	"ossuary/api"
	"ossuary/fact"
)

// --- P1701: Parse

// parses: what Parse answers, and that it changes nothing.
func parses(t *testing.T, what string, p []byte, dims int, want Batch, fault api.Fault) {
	t.Helper()
	p, unchanged := roomyBytes(t, p)
	b, f := Parse(p, dims)
	same(t, what+": Parse's fault", f, fault)
	if !sameBatch(b, want) {
		t.Errorf("%s: %v, not %v", what, b, want)
	}
	unchanged(what)
}

// refuses: Parse of the pieces, one behind the other, answers a fault, and no batch.
func refuses(t *testing.T, what string, fault api.Fault, dims int, pieces ...[]byte) {
	t.Helper()
	parses(t, what, slices.Concat(pieces...), dims, Batch{}, fault)
}

func TestParseOfTheExample(t *testing.T) {
	parses(t, "the example", []byte("\x01\x02\x03\x01\x05\x01a\x01"), 1, Batch{1, 2, 3, []api.Fact{factOf(5, -1, "a")}}, api.OK)
}

func TestParseOfNumbersAtTheirEdges(t *testing.T) {
	facts := []api.Fact{factOf(5, -1, "a", "b")}
	behind := factsOf(facts, 2)
	for _, seq := range edgesOfSeq() {
		for _, tick := range edgesOfTick() {
			for _, budget := range edgesOfBudget() {
				front := nums(uint64(seq.n), uint64(tick.n), uint64(budget.n))
				if seq.is && tick.is && budget.is {
					parses(t, "right numbers", slices.Concat(front, behind), 2, Batch{seq.n, tick.n, budget.n, facts}, api.OK)
					refuses(t, "right numbers, and no facts", api.Truncated, 2, front)
				} else {
					refuses(t, "a number out of its range", api.Malformed, 2, front, behind)
					refuses(t, "a number out of its range, and no facts", api.Malformed, 2, front)
				}
			}
		}
	}
}

func TestParseOfNumbersBeyondInt64(t *testing.T) {
	behind := factsOf([]api.Fact{factOf(5, -1)}, 1)
	for _, n := range []uint64{1 << 63, 1<<63 + 1, 1<<63 + 1<<62, math.MaxUint64 - 1, math.MaxUint64} {
		for at := range 3 {
			l := []uint64{1, 2, 3}
			l[at] = n
			refuses(t, "a number beyond int64", api.Malformed, 1, nums(l...), behind)
		}
	}
}

func TestParseOfEachBeginning(t *testing.T) {
	for dims := 1; dims <= api.Dims; dims++ {
		for _, b := range append(rising(20, dims, stir(7)), Batch{topSeq, topTick, topSeq, times(50, greatestFact(dims))}) {
			p := payloadOf(b, dims)
			for end := range p {
				refuses(t, "a beginning", api.Truncated, dims, p[:end])
			}
			parses(t, "all", p, dims, b, api.OK)
			for _, behind := range [][]byte{{0}, {1}, {0x80}, {0xFF, 0xFF}, p} {
				refuses(t, "bytes behind", api.Malformed, dims, p, behind)
			}
		}
	}
	refuses(t, "nil", api.Truncated, 1)
	refuses(t, "no bytes", api.Truncated, 1, []byte{})
}

func TestParseOfEachWrongNum(t *testing.T) {
	ones := bytes.Repeat([]byte{0xFF}, 9)
	behind := factsOf([]api.Fact{factOf(5, -1)}, 1)
	for at := range 3 {
		for _, wrong := range [][]byte{
			long(0), long(1), long(127), long(128), long(topSeq), {0x80, 0x80, 0},
			append(slices.Clone(ones), 2), append(slices.Clone(ones), 0), append(slices.Clone(ones), 0x81, 0), bytes.Repeat([]byte{0x80}, 12),
		} {
			l := [][]byte{num(1), num(2), num(3)}
			l[at] = wrong
			refuses(t, "a number that is none", api.Malformed, 1, append(l, behind)...)
			refuses(t, "a number that is none, at the end", api.Malformed, 1, l[:at+1]...)
		}
		for _, cut := range [][]byte{{}, {0x80}, {0xFF, 0xFF}, ones} {
			l := [][]byte{num(1), num(2), num(3)}
			l[at] = cut
			refuses(t, "a number that is cut", api.Truncated, 1, l[:at+1]...)
		}
	}
}

// What is wrong with the numbers as bytes is told ahead of their ranges, and these ahead of all that is wrong with the facts.
func TestParseTellsTheFirstOfTwoFaults(t *testing.T) {
	cut, none := []byte{0x80}, long(1)
	far := num(topSeq + 1)
	one := factsOf([]api.Fact{factOf(5, -1)}, 1)
	refuses(t, "Seq 0, Tick cut", api.Truncated, 1, num(0), cut)
	refuses(t, "Seq 0, no Tick", api.Truncated, 1, num(0))
	refuses(t, "Seq far, Budget cut", api.Truncated, 1, far, num(2), cut)
	refuses(t, "Seq far, no Budget", api.Truncated, 1, far, num(2))
	refuses(t, "Tick far, Budget cut", api.Truncated, 1, num(1), far, cut)
	refuses(t, "Tick far, no Budget", api.Truncated, 1, num(1), far)
	refuses(t, "Seq and Tick far, no Budget", api.Truncated, 1, far, far)
	refuses(t, "Seq is none, Tick cut", api.Malformed, 1, none, cut)
	refuses(t, "Seq is none, no Tick", api.Malformed, 1, none)
	refuses(t, "Tick is none, no Budget", api.Malformed, 1, num(1), none)
	for _, l := range [][]uint64{{0, 2, 3}, {topSeq + 1, 2, 3}, {1, topTick + 1, 3}, {1, 2, topSeq + 1}, {math.MaxUint64, math.MaxUint64, math.MaxUint64}} {
		for _, b := range wrongLists() {
			refuses(t, "a number out of its range, and wrong facts", api.Malformed, 1, nums(l...), b)
		}
		refuses(t, "a number out of its range", api.Malformed, 1, nums(l...), one)
	}
	for _, dims := range wrongDims() {
		for _, front := range [][]byte{nil, cut, none, num(1), num(0), far, nums(1, 2), nums(1, 2, 3), nums(0, 2, 3), nums(1, topTick+1, 3), nums(1, 2, topSeq+1)} {
			for _, b := range append(wrongLists(), one) {
				refuses(t, dimsOf(dims), api.BadArg, dims, front, b)
			}
			refuses(t, dimsOf(dims)+", no facts", api.BadArg, dims, front)
		}
	}
}

// wrongLists: facts' bytes that Read refuses, of one dimension, a few of each fault.
func wrongLists() [][]byte {
	right := factOf(5, -1, "a")
	return [][]byte{
		nil, {0x80}, {1}, {1, 5}, {1, 5, 1}, {1, 5, 1, 'a'}, {2, 5, 1, 'a', 1},
		{0}, {0, 0}, {51}, long(1), slices.Concat(num(1), long(5), []byte{0, 0}), {1, 5, 17}, {1, 5, 0x80, 0},
		append(factsOf([]api.Fact{right}, 1), 0), append(factsOf([]api.Fact{right}, 1), factsOf([]api.Fact{right}, 1)...),
		factsOf([]api.Fact{factOf(topHour+1, 1)}, 1), factsOf([]api.Fact{factOf(-1, 1)}, 1), factsOf([]api.Fact{right, factOf(topHour+1, 1)}, 1),
		append(num(1), num(topHour+1)...), factsOf([]api.Fact{factOf(topHour+1, 1, strings.Repeat("x", 17))}, 1),
		factsOf([]api.Fact{factOf(5, topValue+1)}, 1), factsOf([]api.Fact{factOf(5, -topValue-1)}, 1), factsOf([]api.Fact{right, factOf(5, least)}, 1),
		append(factsOf([]api.Fact{factOf(5, topValue+1)}, 1), 0), factsOf([]api.Fact{factOf(5, 1, strings.Repeat("x", 17))}, 1),
		factsOf(times(51, right), 1), factsOf(times(50, right), 1)[:100],
	}
}

func TestParseTellsReadsFault(t *testing.T) {
	seen := map[api.Fault]int{}
	for _, front := range [][]byte{nums(1, 0, 0), nums(1, 2, 3), nums(topSeq, topTick, topSeq)} {
		for i, b := range wrongLists() {
			_, fault := fact.Read(b, 1)
			seen[fault]++
			refuses(t, "wrong facts "+strconv.Itoa(i), fault, 1, front, b)
		}
	}
	for _, fault := range []api.Fault{api.BadArg, api.Range, api.Truncated, api.Malformed} {
		if seen[fault] == 0 {
			t.Errorf("fault %d never came", fault)
		}
	}
	same(t, "Read's other faults", seen[api.OK], 0)
	front := nums(1, 2, 3)
	refuses(t, "a count of 0", api.BadArg, 1, front, []byte{0})
	refuses(t, "a count of 0, bytes behind", api.Malformed, 1, front, []byte{0, 0})
	refuses(t, "a count of 51", api.Malformed, 1, front, []byte{51})
	refuses(t, "an hour too far", api.Range, 1, front, num(1), num(topHour+1))
	refuses(t, "a value too far", api.Range, 1, front, factsOf([]api.Fact{factOf(5, topValue+1)}, 1))
	refuses(t, "a text too long", api.Malformed, 1, front, []byte{1, 5, 17})
	refuses(t, "a fact fewer", api.Truncated, 1, front, []byte{2, 5, 0, 2})
	refuses(t, "a fact more", api.Malformed, 1, front, []byte{1, 5, 0, 2, 5, 0, 2})
}

// Payloads of so many dimensions, read as those of others.
func TestParseForOtherDims(t *testing.T) {
	p := []byte{1, 2, 3, 1, 5, 1, 'a', 1, 'b', 4}
	parses(t, "of 2", p, 2, Batch{1, 2, 3, []api.Fact{factOf(5, 2, "a", "b")}}, api.OK)
	refuses(t, "of 2, for 1", api.Malformed, 1, p)
	refuses(t, "of 2, for 3", api.Truncated, 3, p)
}

func TestParseKeepsNothing(t *testing.T) {
	want := Batch{1, 2, 3, []api.Fact{factOf(5, -1, "a"), factOf(6, 1, "b")}}
	p := payloadOf(want, 1)
	b, _ := Parse(p, 1)
	for i := range p {
		p[i] = 'z'
	}
	same(t, "Parse, and its bytes changed", sameBatch(b, want), true)
	b.Facts[0], b.Facts[1] = api.Fact{}, api.Fact{}
	parses(t, "again", payloadOf(want, 1), 1, want, api.OK)
}

// --- P1701, held against payloads read another way

// taken: the number with which b begins, and what is behind.
func taken(b []byte) (uint64, []byte, api.Fault) {
	n, size := binary.Uvarint(b)
	switch {
	case size == 0 && len(b) < 10:
		return 0, nil, api.Truncated
	case size <= 0 || len(num(n)) != size:
		return 0, nil, api.Malformed
	}
	return n, b[size:], api.OK
}

// parsed: what Parse answers by the chapter's words, of dims from 1 to Dims.
func parsed(p []byte, dims int) (Batch, api.Fault) {
	var l [3]uint64
	fault := api.OK
	for i := range l {
		if l[i], p, fault = taken(p); fault != api.OK {
			return Batch{}, fault
		}
	}
	if l[0] == 0 || l[0] > topSeq || l[1] > topTick || l[2] > topSeq {
		return Batch{}, api.Malformed
	}
	facts, fault := fact.Read(p, dims)
	if fault != api.OK {
		return Batch{}, fault
	}
	return Batch{int64(l[0]), int64(l[1]), int64(l[2]), facts}, api.OK
}

// bothWays: Parse is as the chapter says, and what is parsed has just that payload.
func bothWays(t *testing.T, p []byte, dims int) api.Fault {
	t.Helper()
	want, fault := parsed(p, dims)
	parses(t, "payload", p, dims, want, fault)
	if fault == api.OK {
		record, _ := Record(want, dims)
		sameBytes(t, "parsed, and its record", record, framed(p))
	}
	if t.Failed() {
		t.Fatalf("Parse(% X, %d)", p, dims)
	}
	return fault
}

func TestParseOfAllBytesOfFewKinds(t *testing.T) {
	seen := map[api.Fault]int{}
	var try func(p []byte, dims, left int)
	try = func(p []byte, dims, left int) {
		seen[bothWays(t, p, dims)]++
		if left == 0 {
			return
		}
		for _, next := range []byte{0, 1, 2, 17, 51, 0x80, 0xFF} {
			try(append(p[:len(p):len(p)], next), dims, left-1)
		}
	}
	for dims := 1; dims <= api.Dims; dims++ {
		try(nil, dims, 5)
		try([]byte{1, 2}, dims, 4)
		try([]byte{1, 2, 3}, dims, 5)
		try([]byte{1, 2, 3, 1, 0}, dims, 4)
		try(append([]byte{1, 2, 3, 1}, 0x80, 0x80, 0x80), dims, 3)
		try(bytes.Repeat([]byte{0xFF}, 8), dims, 4)
		try(append([]byte{1, 2}, bytes.Repeat([]byte{0xFF}, 8)...), dims, 4)
		try([]byte{1, 0xBC, 0x80, 0x80, 0xE0}, dims, 4)
	}
	for _, fault := range []api.Fault{api.OK, api.BadArg, api.Range, api.Truncated, api.Malformed} {
		if seen[fault] == 0 {
			t.Errorf("fault %d never came", fault)
		}
	}
}

// Payloads, each byte changed into each other one, or taken out, or doubled.
func TestParseOfChangedBytes(t *testing.T) {
	for dims := 1; dims <= api.Dims; dims++ {
		for _, b := range rising(3, dims, stir(uint64(dims))) {
			p := payloadOf(b, dims)
			for i := range p {
				bothWays(t, slices.Concat(p[:i], p[i+1:]), dims)
				bothWays(t, slices.Concat(p[:i+1], p[i:]), dims)
				for n := range 256 {
					changed := slices.Clone(p)
					changed[i] = byte(n)
					bothWays(t, changed, dims)
				}
			}
		}
	}
}

func TestParseOfBytesWithoutAPattern(t *testing.T) {
	throw := stir(9)
	for range 50000 {
		p := make([]byte, throw(30))
		for i := range p {
			p[i] = byte(throw(256) >> throw(8))
		}
		bothWays(t, p, 1+throw(api.Dims))
	}
}
