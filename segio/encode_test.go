package segio

import (
	"math"
	"slices"
	"strconv"
	"strings"
	"testing"

	"ossuary/api"
	"ossuary/seg"
)

// encodes: Encode of these rows answers what the chapter says, and nothing has changed; and what it answers is decoded as it was.
func encodes(t *testing.T, what string, rows []api.Row, dims int) []byte {
	t.Helper()
	s := segOf(t, rows...)
	b, fault := Encode(s, dims)
	same(t, what+": fault", fault, api.OK)
	sameBytes(t, what, b, framed(payloadOf(rows, dims)))
	has(t, what+": the segment", s, rows)
	decodes(t, what, b, dims, rows)
	return b
}

// refuses: Encode answers a fault, and no bytes.
func refuses(t *testing.T, what string, rows []api.Row, dims int, want api.Fault) {
	t.Helper()
	s := segOf(t, rows...)
	b, fault := Encode(s, dims)
	same(t, what+": fault", fault, want)
	sameBytes(t, what, b, nil)
	has(t, what+": the segment", s, rows)
}

// --- P1202 Encode

func TestEncodeOfTheExample(t *testing.T) {
	empty, _ := seg.Of(nil)
	for _, s := range []*seg.Seg{nil, {}, empty} {
		b, fault := Encode(s, 1)
		same(t, "fault", fault, api.OK)
		sameBytes(t, "a segment without rows", b, framed([]byte{1, 0, 0}))
		sameBytes(t, "its first bytes", b[:4], []byte{3, 1, 0, 0})
	}
	encodes(t, "no rows", nil, 1)
}

func TestEncodeByteByByte(t *testing.T) {
	full := strings.Repeat("m", api.MaxText)
	for _, c := range []struct {
		what string
		rows []api.Row
		dims int
		want []byte
	}{
		{"no rows, 2", nil, 2, []byte{2, 0, 0, 0}},
		{"no rows, 3", nil, 3, []byte{3, 0, 0, 0, 0}},
		{"no rows, 4", nil, 4, []byte{4, 0, 0, 0, 0, 0}},
		{"one row, all 0", []api.Row{rowOf(0, 0)}, 1, []byte{1, 1, 0, 1, 0, 0, 1, 0, 0, 0}},
		{"one row", []api.Row{rowOf(300, -1, "ab")}, 1, []byte{1, 1, 2, 'a', 'b', 1, 0xAC, 2, 0, 1, 1, 1, 1}},
		{"one row of 2", []api.Row{rowOf(5, 1, "a", "b")}, 2, []byte{2, 1, 1, 'a', 1, 1, 'b', 1, 5, 0, 0, 1, 2, 2, 2}},
		{"one row of 4, a gap", []api.Row{rowOf(5, 1, "a", "", "c")}, 4, []byte{4, 1, 1, 'a', 1, 0, 1, 1, 'c', 1, 0, 1, 5, 0, 0, 0, 0, 1, 2, 2, 2}},
		{"a full text", []api.Row{rowOf(5, 1, full)}, 1, slices.Concat([]byte{1, 1, 16}, []byte(full), []byte{1, 5, 0, 1, 2, 2, 2})},
		{"two hours", []api.Row{rowOf(5, 3, "b"), rowOf(7, -1, "a")}, 1, []byte{1, 2, 1, 'a', 1, 'b', 2, 5, 1, 1, 6, 6, 6, 2, 0, 1, 1, 1, 1}},
		{"one hour", []api.Row{rowOf(5, 3, "a"), rowOf(5, -1, "b")}, 1, []byte{1, 2, 1, 'a', 1, 'b', 2, 5, 0, 1, 6, 6, 6, 0, 1, 1, 1, 1, 1}},
		{"a shared text", []api.Row{rowOf(0, 0, "a", "y"), rowOf(1, 0, "a", "x")}, 2, []byte{2, 1, 1, 'a', 2, 1, 'x', 1, 'y', 2, 0, 0, 1, 1, 0, 0, 0, 1, 0, 0, 1, 0, 0, 0}},
		{"a cell", []api.Row{{Key: keyOf(1), Cell: api.Cell{Count: 300, Sum: 64, Min: -2, Max: 5}}}, 1, []byte{1, 1, 0, 1, 1, 0, 0xAC, 2, 0x80, 1, 3, 10}},
		{"the greatest hour", []api.Row{rowOf(0, 0), rowOf(api.MaxHour, 0)}, 1, []byte{1, 1, 0, 2, 0, 0, 1, 0, 0, 0, 0x80, 0x80, 0x80, 8, 0, 1, 0, 0, 0}},
	} {
		b := encodes(t, c.what, c.rows, c.dims)
		sameBytes(t, c.what, b, framed(c.want))
	}
}

func TestEncodeOfHours(t *testing.T) {
	hours := []int64{0, 1, 2, 127, 128, 129, 255, 256, 16383, 16384, 16511, 16512, 1 << 20, 1<<21 - 1, 1 << 21, api.MaxHour - 1, api.MaxHour}
	for i, a := range hours {
		encodes(t, "one hour", []api.Row{rowOf(a, 1, "a")}, 1)
		for j, b := range hours[i:] {
			encodes(t, "two hours", inOrder([]api.Row{rowOf(a, 1, "a"), rowOf(b, 1, "b")}), 1)
			for _, c := range hours[i+j:] {
				encodes(t, "three hours", []api.Row{rowOf(a, 1, "a"), rowOf(b, 1, "b"), rowOf(c, 1, "c")}, 1)
			}
		}
	}
}

func TestEncodeOfCellsAtTheirEnds(t *testing.T) {
	ends := []int64{least, least + 1, -1 << 62, -api.MaxValue, -65, -64, -1, 0, 1, 63, 64, 8191, 8192, api.MaxValue, 1 << 62, greatest - 1, greatest}
	for _, v := range ends {
		encodes(t, "one value", []api.Row{rowOf(5, v, "a")}, 1)
		for _, low := range ends {
			for _, high := range ends {
				if low > high {
					continue
				}
				var rows []api.Row
				for i, count := range []int64{2, 127, 128, 1 << 31, 1 << 32, 1 << 62, greatest - 1, greatest} {
					rows = append(rows, api.Row{Key: keyOf(int64(i)), Cell: api.Cell{Count: count, Sum: v, Min: low, Max: high}})
				}
				encodes(t, "cells", rows, 1)
			}
		}
	}
}

func TestEncodeOfEachNumberOfDimensions(t *testing.T) {
	for dims := 1; dims <= api.Dims; dims++ {
		for seed := range uint64(60) {
			for _, n := range []int{0, 1, 2, 3, 10, 40} {
				rows := some(n, dims, 1000*seed+uint64(n))
				for more := dims; more <= api.Dims; more++ { // those that are not used are empty
					encodes(t, strconv.Itoa(n)+" rows", rows, more)
				}
			}
		}
	}
}

// Where texts have more than 128 places, a place has two bytes.
func TestEncodeOfTextsThatAreSharedOrNot(t *testing.T) {
	for _, n := range []int{1, 2, 127, 128, 129, 130, 300, 20000} {
		for dims := 1; dims <= api.Dims; dims++ {
			var shared, own, mixed []api.Row
			for i := range n {
				s := strconv.Itoa(n - i)
				all, each, some := keyOf(int64(i)), keyOf(int64(i)), keyOf(int64(i/3), s)
				for d := range dims {
					all.Dims[d], each.Dims[d] = "shared", s+strings.Repeat("x", d)
				}
				shared = append(shared, api.Row{Key: all, Cell: rowOf(0, int64(i)).Cell})
				own = append(own, api.Row{Key: each, Cell: rowOf(0, int64(-i)).Cell})
				mixed = append(mixed, api.Row{Key: some, Cell: rowOf(0, 7).Cell})
			}
			encodes(t, "shared texts", shared, dims)
			encodes(t, "texts of each row's own", own, dims)
			encodes(t, "texts of each row's own, in one dimension", inOrder(mixed), dims)
		}
	}
}

func TestEncodeAnswersFitsFault(t *testing.T) {
	tooLong := strings.Repeat("x", 17)
	for _, dims := range noDims() {
		what := "dims " + strconv.Itoa(dims)
		refuses(t, what, nil, dims, api.BadArg)
		refuses(t, what, []api.Row{rowOf(5, 1)}, dims, api.BadArg)
		refuses(t, what, []api.Row{rowOf(-5, 1, tooLong)}, dims, api.BadArg)
		b, fault := Encode(nil, dims)
		same(t, "Encode of nil, "+what, fault, api.BadArg)
		sameBytes(t, "Encode of nil, "+what, b, nil)
	}
	for _, hour := range []int64{least, -1, api.MaxHour + 1, greatest} {
		refuses(t, "an hour", []api.Row{rowOf(hour, 1, "a")}, 1, api.Range)
		refuses(t, "an hour, and a text", []api.Row{rowOf(hour, 1, tooLong)}, 1, api.Range)
		refuses(t, "an hour among others", inOrder([]api.Row{rowOf(3, 1), rowOf(hour, 1), rowOf(4, 1)}), 1, api.Range)
	}
	for dims := 1; dims <= api.Dims; dims++ {
		for d := range api.Dims {
			refuses(t, "a text too long", []api.Row{rowOf(5, 1, in(d, tooLong)...)}, dims, api.Malformed)
			if d >= dims {
				refuses(t, "a text in a dimension that is not used", []api.Row{rowOf(5, 1, in(d, "a")...)}, dims, api.Malformed)
			}
		}
	}
	refuses(t, "a text, then an hour", []api.Row{rowOf(5, 1, tooLong), rowOf(greatest, 1)}, 1, api.Malformed)
	refuses(t, "an hour, then a text", []api.Row{rowOf(-5, 1), rowOf(5, 1, tooLong)}, 1, api.Range)
}

func TestEncodeAnswersNewBytes(t *testing.T) {
	rows := some(10, 2, 3)
	s := segOf(t, rows...)
	first, _ := Encode(s, 2)
	want := slices.Clone(first)
	for i := range first {
		first[i] = 0xEE
	}
	_ = append(first[:1], 7, 7, 7)
	again, fault := Encode(s, 2)
	same(t, "Encode's fault", fault, api.OK)
	sameBytes(t, "Encode again", again, want)
	has(t, "the segment", s, rows)
}

// --- P1202 Encode, where payloads have about MaxFile bytes

// ofSize: a value whose Int has so many bytes, from 1 to 10.
func ofSize(n int) int64 {
	if n == 1 {
		return 0
	}
	return 1 << (7*(n-1) - 1)
}

// rowsOfSize: rows whose payload has just so many bytes.
func rowsOfSize(t *testing.T, size, dims int) []api.Row {
	t.Helper()
	const sum = 9          // bytes of most Sums, so that each row has room for one more
	each := 4 + dims + sum // bytes of a row, since all else of it has one
	n := (size - 1 - 2*dims - 4) / each
	rest := size - 1 - 2*dims - len(num(uint64(n))) - n*each
	rows := make([]api.Row, n)
	for i := range rows {
		more := min(rest, 1)
		rest -= more
		rows[i] = api.Row{Key: keyOf(int64(i)), Cell: api.Cell{Count: 2, Sum: ofSize(sum + more), Min: -1, Max: 1}}
	}
	same(t, "a test's payload", len(payloadOf(rows, dims)), size)
	return rows
}

func TestEncodeOfFullPayloads(t *testing.T) {
	for dims := 1; dims <= api.Dims; dims++ {
		for _, size := range []int{20000, api.MaxFile - 1, api.MaxFile} {
			encodes(t, "a payload of "+strconv.Itoa(size), rowsOfSize(t, size, dims), dims)
		}
		for _, size := range []int{api.MaxFile + 1, api.MaxFile + 2, api.MaxFile + 300, 2 * api.MaxFile} {
			refuses(t, "a payload of "+strconv.Itoa(size), rowsOfSize(t, size, dims), dims, api.Full)
		}
	}
}

func TestEncodeOfRowsAsSmallAsTheyCanBe(t *testing.T) {
	const head = 1 + 2 + 3 // the number of dimensions, one empty text, the number of rows
	n := (api.MaxFile - head) / 6
	var rows []api.Row
	for i := range n + 1 {
		rows = append(rows, rowOf(int64(i), 0))
	}
	encodes(t, "as many rows as there can be", rows[:n], 1)
	refuses(t, "one more", rows, 1, api.Full)
}

// textRows: rows no two of which share a text, each text of so many bytes.
func textRows(n, dims, size int) []api.Row {
	rows := make([]api.Row, n)
	for i := range rows {
		s := strconv.Itoa(1000000 + i)
		r := rowOf(int64(i), 0)
		for d := range dims {
			r.Key.Dims[d] = s + strings.Repeat("x", size-len(s))
		}
		rows[i] = r
	}
	return rows
}

func TestEncodeOfTextsThatAreTooMuch(t *testing.T) {
	for dims := 1; dims <= api.Dims; dims++ {
		places := 0
		room := func(n int) bool { // for n rows, where places have so many bytes
			count := len(num(uint64(n)))
			return 1+dims*(count+n*(1+api.MaxText)+places)+count+5*n <= api.MaxFile
		}
		n := 0
		for room(n) {
			places += len(num(uint64(n)))
			n++
		}
		refuses(t, "a row too much", textRows(n, dims, api.MaxText), dims, api.Full)
		rows := textRows(n-1, dims, api.MaxText)
		b, fault := Encode(segOf(t, rows...), dims)
		same(t, "as many as have room", fault, api.OK)
		sameBytes(t, "as many as have room", b, framed(payloadOf(rows, dims)))
	}
	refuses(t, "texts alone that have no room", textRows(1<<18, 1, api.MaxText), 1, api.Full)
}

// Encode asks only what P1202 says of it: where a dimension has more texts than Decode reads, there are bytes all the same.
func TestEncodeOfAsManyTextsAsAreDecoded(t *testing.T) {
	for dims := 1; dims <= 2; dims++ {
		rows := textRows(1<<16+1, dims, 8)
		encodes(t, "65536 texts", rows[:1<<16], dims)
		b, fault := Encode(segOf(t, rows...), dims)
		same(t, "65537 texts", fault, api.OK)
		sameBytes(t, "65537 texts", b, framed(payloadOf(rows, dims)))
		decodesNot(t, "65537 texts", b, dims, api.Malformed)
	}
}

func TestEncodeTellsFitsFaultAheadOfFull(t *testing.T) {
	rows := rowsOfSize(t, api.MaxFile+1000, 1)
	last := len(rows) - 1
	refuses(t, "all fits", rows, 1, api.Full)
	rows[last].Key.Dims[0] = strings.Repeat("x", 17)
	refuses(t, "a text too long", rows, 1, api.Malformed)
	rows[last].Key.Hour = api.MaxHour + 1
	refuses(t, "an hour too far", rows, 1, api.Range)
	refuses(t, "dims", rows, 5, api.BadArg)
	refuses(t, "dims", rows, math.MinInt, api.BadArg)
}
