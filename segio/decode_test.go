package segio

import (
	"bytes"
	"encoding/binary"
	"hash/crc32"
	"math"
	"slices"
	"strconv"
	"strings"
	"testing"

	"ossuary/api"
)

// decodes: Decode answers the segment of these rows, and keeps nothing of the bytes, which stay as they are.
func decodes(t *testing.T, what string, b []byte, dims int, rows []api.Row) {
	t.Helper()
	spare := append(slices.Clone(b), "spare"...)
	kept := slices.Clone(spare)
	s, fault := Decode(spare[:len(b)], dims)
	same(t, what+": Decode's fault", fault, api.OK)
	sameBytes(t, what+": what was handed in", spare, kept)
	if s == nil {
		t.Fatalf("%s: no segment", what)
	}
	has(t, what+": Decode", s, rows)
	for i := range spare {
		spare[i] = 'z'
	}
	has(t, what+": Decode, and its bytes changed", s, rows)
}

// decodesNot: Decode answers a fault, and no segment.
func decodesNot(t *testing.T, what string, b []byte, dims int, want api.Fault) {
	t.Helper()
	spare := append(slices.Clone(b), "spare"...)
	kept := slices.Clone(spare)
	s, fault := Decode(spare[:len(b)], dims)
	same(t, what+": Decode's fault", fault, want)
	same(t, what+": whether there is a segment", s != nil, false)
	sameBytes(t, what+": what was handed in", spare, kept)
}

// --- bytes read by the chapter's words, another way than by the program

// walker reads bytes up to the first fault.
type walker struct {
	b     []byte
	fault api.Fault
}

func (w *walker) num() uint64 {
	if w.fault != api.OK {
		return 0
	}
	n, size := binary.Uvarint(w.b)
	switch {
	case size == 0 && len(w.b) < 10:
		w.fault = api.Truncated
	case size <= 0 || len(num(n)) != size:
		w.fault = api.Malformed
	default:
		w.b = w.b[size:]
		return n
	}
	return 0
}

func (w *walker) upTo(most uint64) uint64 {
	n := w.num()
	if n > most {
		w.fault, n = api.Malformed, 0
	}
	return n
}

func (w *walker) bytes(n uint64) []byte {
	if w.fault == api.OK && n > uint64(len(w.b)) {
		w.fault = api.Truncated
	}
	if w.fault != api.OK {
		return nil
	}
	b := w.b[:n]
	w.b = w.b[n:]
	return b
}

func (w *walker) int() int64 {
	n := w.num()
	if n%2 == 1 {
		return -int64(n/2) - 1
	}
	return int64(n / 2)
}

// texts: those of a dimension, and whether they rise.
func (w *walker) texts() ([]string, bool) {
	var l []string
	rise := true
	for range w.upTo(65536) {
		l = append(l, string(w.bytes(w.upTo(16))))
		if w.fault != api.OK {
			break
		}
		if n := len(l); n > 1 && l[n-2] >= l[n-1] {
			rise = false
		}
	}
	return l, rise
}

// payloadIn: what is in the frame that all these bytes are.
func payloadIn(b []byte) ([]byte, api.Fault) {
	w := walker{b: b}
	p := w.bytes(w.upTo(4194304))
	check := w.bytes(4)
	switch {
	case w.fault != api.OK:
		return nil, w.fault
	case binary.LittleEndian.Uint32(check) != crc32.ChecksumIEEE(p):
		return nil, api.BadSum
	case len(w.b) > 0:
		return nil, api.Malformed
	}
	return p, api.OK
}

// rightRow: whether it may stand behind those, in a segment that fits.
func rightRow(l []api.Row, r api.Row) bool {
	c := r.Cell
	switch {
	case len(l) > 0 && !ahead(l[len(l)-1].Key, r.Key), c.Count < 1, c.Min > c.Max:
		return false
	case c.Count == 1 && (c.Sum != c.Min || c.Sum != c.Max):
		return false
	}
	return true
}

// decodeAs: what Decode answers.
func decodeAs(b []byte, dims int) ([]api.Row, api.Fault) {
	if dims < 1 || dims > 4 {
		return nil, api.BadArg
	}
	p, fault := payloadIn(b)
	if fault != api.OK {
		return nil, fault
	}
	w := walker{b: p}
	right := w.num() == uint64(dims)
	texts := make([][]string, dims)
	unused := make([]map[int]bool, dims)
	for d := range dims {
		l, rise := w.texts()
		texts[d], right = l, right && rise
		unused[d] = map[int]bool{}
		for i := range l {
			unused[d][i] = true
		}
	}
	var l []api.Row
	hour := uint64(0)
	for range w.upTo(1048576) {
		if more := w.num(); more > api.MaxHour-hour {
			right = false
		} else {
			hour += more
		}
		r := api.Row{Key: keyOf(int64(hour))}
		for d := range dims {
			place := int(w.upTo(65535))
			if place >= len(texts[d]) {
				right = false
				continue
			}
			r.Key.Dims[d] = texts[d][place]
			delete(unused[d], place)
		}
		count := w.num()
		r.Cell = api.Cell{Count: int64(min(count, greatest)), Sum: w.int(), Min: w.int(), Max: w.int()}
		if w.fault != api.OK {
			return nil, w.fault
		}
		right = right && count <= greatest && rightRow(l, r)
		l = append(l, r)
	}
	for _, left := range unused {
		right = right && len(left) == 0
	}
	switch {
	case w.fault != api.OK:
		return nil, w.fault
	case !right || len(w.b) > 0:
		return nil, api.Malformed
	}
	return l, api.OK
}

// bothWays: Decode is as the chapter says, and what is decoded is encoded as it was.
func bothWays(t *testing.T, b []byte, dims int) api.Fault {
	t.Helper()
	rows, want := decodeAs(b, dims)
	s, fault := Decode(b, dims)
	if fault != want || (s != nil) != (want == api.OK) {
		t.Fatalf("Decode(% X, %d): %d, not %d", short(b), dims, fault, want)
	}
	if want != api.OK {
		return want
	}
	has(t, "Decode", s, rows)
	again, fault := Encode(s, dims)
	same(t, "Encode's fault, of what was decoded", fault, api.OK)
	sameBytes(t, "what was decoded, and is encoded", again, b)
	return api.OK
}

// is: Decode of a frame of these parts answers that fault, by the chapter and by what is read of its words.
func is(t *testing.T, what string, want api.Fault, dims int, parts ...[]byte) {
	t.Helper()
	b := framed(parts...)
	same(t, what, bothWays(t, b, dims), want)
	if want != api.OK {
		decodesNot(t, what, b, dims, want)
	}
}

// --- P1202 Decode: numbers of dimensions, frames

func TestDecodeOfWrongDims(t *testing.T) { // told ahead of all else
	good := framed(payloadOf(some(5, 2, 1), 2))
	bad := slices.Clone(good)
	bad[len(bad)-1]++
	for _, b := range [][]byte{nil, {}, {0x80, 0}, good, good[:5], bad, append(slices.Clone(good), 0), framed([]byte{1, 0, 0}), framed([]byte{0, 0}), framed([]byte{5, 0, 0, 0, 0, 0, 0}), framed(nil)} {
		for _, dims := range noDims() {
			decodesNot(t, "dims "+strconv.Itoa(dims), b, dims, api.BadArg)
		}
	}
}

func TestDecodeOfTheExample(t *testing.T) {
	decodes(t, "the example", framed([]byte{1, 0, 0}), 1, nil)
	for dims := 1; dims <= api.Dims; dims++ {
		p := append([]byte{byte(dims)}, make([]byte, dims+1)...)
		is(t, "no rows", api.OK, dims, p)
	}
}

func TestDecodeOfEachBeginning(t *testing.T) {
	for dims := 1; dims <= api.Dims; dims++ {
		for _, n := range []int{0, 1, 2, 30} {
			b := framed(payloadOf(some(n, dims, uint64(n)), dims))
			for end := range b {
				decodesNot(t, "a beginning", b[:end], dims, api.Truncated)
			}
			same(t, "all", bothWays(t, b, dims), api.OK)
		}
	}
	decodesNot(t, "no bytes", nil, 1, api.Truncated)
	decodesNot(t, "no bytes", []byte{}, 1, api.Truncated)
}

func TestDecodeOfEachByteChanged(t *testing.T) {
	seen := map[api.Fault]int{}
	for dims := 1; dims <= api.Dims; dims++ {
		for _, n := range []int{0, 1, 3, 12} {
			b := framed(payloadOf(some(n, dims, uint64(n)), dims))
			for i := range b {
				for x := range 256 {
					changed := slices.Clone(b)
					changed[i] = byte(x)
					fault := bothWays(t, changed, dims)
					if seen[fault]++; fault == api.OK && changed[i] != b[i] {
						t.Fatalf("byte %d of % X changed into %d: decoded", i, b, x)
					}
				}
			}
		}
	}
	for _, fault := range []api.Fault{api.OK, api.Truncated, api.Malformed, api.BadSum} {
		if seen[fault] == 0 {
			t.Errorf("fault %d never came", fault)
		}
	}
}

func TestDecodeOfBytesBehindTheFrame(t *testing.T) {
	for dims := 1; dims <= api.Dims; dims++ {
		p := payloadOf(some(4, dims, 7), dims)
		good := framed(p)
		for _, behind := range [][]byte{{0}, {1}, {0xFF}, {0, 0, 0, 0, 0}, good, good[:1], bytes.Repeat([]byte{7}, 500)} {
			decodesNot(t, "bytes behind", slices.Concat(good, behind), dims, api.Malformed)
			decodesNot(t, "bytes behind a payload cut short", slices.Concat(framed(p[:len(p)-1]), behind), dims, api.Malformed)
			decodesNot(t, "bytes behind a payload without bytes", slices.Concat(framed(nil), behind), dims, api.Malformed)
			bad := slices.Clone(good)
			bad[len(bad)-1] ^= 1
			decodesNot(t, "bytes behind a wrong check", slices.Concat(bad, behind), dims, api.BadSum)
		}
	}
}

func TestDecodeTellsTheFramesFault(t *testing.T) {
	good := framed([]byte{1, 0, 0})
	for i := 1; i < len(good); i++ {
		for bit := range 8 {
			bad := slices.Clone(good)
			bad[i] ^= 1 << bit
			decodesNot(t, "a bit changed", bad, 1, api.BadSum)
		}
	}
	decodesNot(t, "a wrong check of a wrong payload", []byte{1, 9, 0, 0, 0, 0}, 1, api.BadSum)
	decodesNot(t, "a length longer than it needs be", slices.Concat(long(3), good[1:]), 1, api.Malformed)
	decodesNot(t, "a length above MaxFile", slices.Concat(num(api.MaxFile+1), good[1:]), 1, api.Malformed)
	decodesNot(t, "a length of MaxFile, not there", slices.Concat(num(api.MaxFile), good[1:]), 1, api.Truncated)
	decodesNot(t, "a frame of MaxFile and one more", framed(make([]byte, api.MaxFile+1)), 1, api.Malformed)
	decodesNot(t, "a frame of MaxFile, all 0", framed(make([]byte, api.MaxFile)), 1, api.Malformed)
	decodesNot(t, "a frame without a payload", framed(nil), 1, api.Truncated)
}

// --- P1202 Decode: payloads that are wrong, in good frames

func TestDecodeOfPayloadsCutShort(t *testing.T) {
	for dims := 1; dims <= api.Dims; dims++ {
		for _, n := range []int{0, 1, 2, 30} {
			p := payloadOf(some(n, dims, uint64(n)+5), dims)
			for end := range p {
				is(t, "a payload cut short", api.Truncated, dims, p[:end])
			}
			is(t, "all", api.OK, dims, p)
		}
	}
}

func TestDecodeOfBytesBehindAPayload(t *testing.T) {
	for dims := 1; dims <= api.Dims; dims++ {
		for _, n := range []int{0, 1, 5} {
			p := payloadOf(some(n, dims, uint64(n)), dims)
			for _, behind := range [][]byte{{0}, {1}, {0x80}, {0xFF}, {0, 0, 0, 0, 0, 0, 0, 0}, p, bytes.Repeat([]byte{0}, 400)} {
				is(t, "bytes left", api.Malformed, dims, p, behind)
			}
		}
	}
}

// A payload is read as one of so many dimensions as are asked, whatever number it tells.
func TestDecodeOfAnotherNumberOfDimensions(t *testing.T) {
	for dims := 1; dims <= api.Dims; dims++ {
		for _, n := range []int{0, 1, 20} {
			p := payloadOf(some(n, dims, 9), dims)
			for _, told := range []uint64{0, 1, 2, 3, 4, 5, 6, 127, 128, 256 + uint64(dims), 1<<32 + uint64(dims), math.MaxInt64, 1 << 63, 1<<63 + uint64(dims), math.MaxUint64} {
				if told == uint64(dims) {
					continue
				}
				is(t, "another number", api.Malformed, dims, num(told), p[1:])
				is(t, "another number, bytes left", api.Malformed, dims, num(told), p[1:], []byte{0})
				is(t, "another number, cut short", api.Truncated, dims, num(told), p[1:len(p)-1])
				is(t, "another number, and nothing else", api.Truncated, dims, num(told))
				is(t, "another number, then too many texts", api.Malformed, dims, num(told), num(65537))
			}
			is(t, "a number that is too long", api.Malformed, dims, long(uint64(dims)), p[1:])
			is(t, "a number that is too long, and nothing else", api.Malformed, dims, long(uint64(dims)))
		}
	}
	row := slices.Concat(num(5), num(0), cell(1, 0, 0, 0))
	is(t, "of 1, read as 2", api.Truncated, 2, num(1), texts("a"), num(1), row)
	is(t, "of 2, without rows, read as 1", api.Malformed, 1, []byte{2, 0, 0, 0})
	is(t, "of 1, without rows, read as 2", api.Truncated, 2, []byte{1, 0, 0})
	is(t, "of 2 by its bytes, of 1 by its number", api.Malformed, 2, num(1), texts("a"), texts("b"), num(1), num(5), num(0), num(0), cell(1, 0, 0, 0))
}

// Where each kind of number of a payload has a byte more than it needs.
func TestDecodeOfNumbersThatAreTooLong(t *testing.T) {
	fields := func() [][]byte {
		return [][]byte{num(1), num(1), num(1), []byte("a"), num(1), num(5), num(0), num(2), whole(-3), whole(-4), whole(7)}
	}
	is(t, "as short as they can be", api.OK, 1, fields()...)
	for i := range fields() {
		if i == 3 {
			continue
		}
		l := fields()
		n, _ := binary.Uvarint(l[i])
		l[i] = long(n)
		is(t, "field "+strconv.Itoa(i), api.Malformed, 1, l...)
		is(t, "field "+strconv.Itoa(i)+", and nothing else", api.Malformed, 1, l[:i+1]...)
		l[i] = append(bytes.Repeat([]byte{0xFF}, 9), 2)
		is(t, "field "+strconv.Itoa(i)+" above 64 bits", api.Malformed, 1, l[:i+1]...)
		l[i] = bytes.Repeat([]byte{0xFF}, 10)
		is(t, "field "+strconv.Itoa(i)+" that does not end", api.Malformed, 1, l[:i+1]...)
		l[i] = []byte{0x80}
		is(t, "field "+strconv.Itoa(i)+" that is cut off", api.Truncated, 1, l[:i+1]...)
	}
	is(t, "a second place", api.Malformed, 2, num(2), texts("a"), texts("b"), num(1), num(5), num(0), long(0))
	is(t, "a second hour", api.Malformed, 1, num(1), texts("a"), num(2), num(5), num(0), cell(1, 0, 0, 0), long(1))
}

func TestDecodeOfHowManyTexts(t *testing.T) {
	for _, n := range []uint64{65537, 65538, 65536 + 65536, 1 << 31, 1 << 32, 1<<32 + 1, math.MaxInt64, 1 << 63, 1<<63 + 1, math.MaxUint64} {
		is(t, "too many texts told", api.Malformed, 1, num(1), num(n))
		is(t, "too many texts told, some there", api.Malformed, 1, num(1), num(n), text("a"), num(1), num(5), num(0), cell(1, 0, 0, 0))
		is(t, "too many texts told, of the second dimension", api.Malformed, 2, num(2), texts("a"), num(n))
		is(t, "too many texts told, behind ones that fall", api.Malformed, 2, num(2), texts("b", "a"), num(n))
	}
	for _, n := range []uint64{1, 2, 1000, 65535, 65536} {
		is(t, "texts told that are not there", api.Truncated, 1, num(1), num(n))
		is(t, "texts told that are not all there", api.Truncated, 1, num(1), num(n), bytes.Repeat(text("a"), int(n)-1))
	}
}

func TestDecodeOfAsManyTextsAsThereCanBe(t *testing.T) {
	many := textRows(1<<16, 1, 8)
	p := payloadOf(many, 1)
	is(t, "65536 texts", api.OK, 1, p)
	r := slices.Concat(num(0), num(65535), cell(1, 0, 0, 0)) // the last row's key once more
	head := len(num(1)) + len(num(1<<16)) + (1<<16)*9
	is(t, "the last place twice", api.Malformed, 1, p[:head], num(1<<16+1), p[head+len(num(1<<16)):], r)
	all := make([]string, 0, 1<<16+1)
	for _, r := range textRows(1<<16+1, 1, 8) {
		all = append(all, r.Key.Dims[0])
	}
	is(t, "65537 texts", api.Malformed, 1, num(1), texts(all...), num(0))
	is(t, "65536 texts, and no row", api.Malformed, 1, num(1), texts(all[:1<<16]...), num(0))
}

func TestDecodeOfHowManyRows(t *testing.T) {
	row := slices.Concat(num(5), num(0), cell(1, 0, 0, 0))
	head := slices.Concat(num(1), texts("a"))
	for _, n := range []uint64{1048577, 1048578, 1 << 21, 1 << 31, 1 << 32, 1<<32 + 1, math.MaxInt64, 1 << 63, 1<<63 + 1, math.MaxUint64} {
		is(t, "too many rows told", api.Malformed, 1, head, num(n))
		is(t, "too many rows told, one there", api.Malformed, 1, head, num(n), row)
		is(t, "too many rows told, of a wrong number of dimensions", api.Malformed, 1, num(2), texts("a"), num(n))
	}
	for _, n := range []uint64{1, 2, 1000, 1048575, 1048576} {
		is(t, "rows told that are not there", api.Truncated, 1, head, num(n))
		is(t, "rows told, the last one cut short", api.Truncated, 1, head, num(n), bytes.Repeat(row, int(min(n, 500)))[1:])
	}
	is(t, "a row more than is told", api.Malformed, 1, head, num(1), row, row)
	is(t, "a row that is not told", api.Malformed, 1, head, num(0), row)
}

func TestDecodeOfTextsThatAreTooLong(t *testing.T) {
	for dims := 1; dims <= api.Dims; dims++ {
		for d := range dims {
			for _, n := range []int{0, 1, 15, 16, 17, 18, 127, 128, 1000} {
				want := api.OK
				if n > api.MaxText {
					want = api.Malformed
				}
				parts := [][]byte{num(uint64(dims))}
				row := num(5)
				for i := range dims {
					if i == d {
						parts = append(parts, texts(strings.Repeat("x", n)))
					} else {
						parts = append(parts, texts("a"))
					}
					row = append(row, 0)
				}
				parts = append(parts, num(1), row, cell(1, 0, 0, 0))
				is(t, "a text of "+strconv.Itoa(n), want, dims, parts...)
			}
		}
	}
	for _, n := range []uint64{17, 18, 1 << 32, 1<<32 + 1, math.MaxInt64, 1 << 63, math.MaxUint64} {
		is(t, "a text too long, and not there", api.Malformed, 1, num(1), num(1), num(n))
		is(t, "a text too long, behind ones that fall", api.Malformed, 1, num(1), num(3), text("b"), text("a"), num(n))
	}
	is(t, "a text that is not all there", api.Truncated, 1, num(1), num(1), num(16), []byte("a"))
}

// withTexts: a payload of so many dimensions in which one has these texts, and each of them is at a row's place.
func withTexts(dims, d int, l []string) [][]byte {
	return withTextsAndRows(dims, d, l, len(l))
}

// withTextsAndRows: likewise, but only the first ones, as many as there are rows.
func withTextsAndRows(dims, d int, l []string, rows int) [][]byte {
	parts := [][]byte{num(uint64(dims))}
	for i := range dims {
		if i == d {
			parts = append(parts, texts(l...))
		} else {
			parts = append(parts, texts("k"))
		}
	}
	parts = append(parts, num(uint64(rows)))
	for place := range rows {
		row := num(1)
		for i := range dims {
			if i == d {
				row = append(row, num(uint64(place))...)
			} else {
				row = append(row, 0)
			}
		}
		parts = append(parts, row, cell(1, 0, 0, 0))
	}
	return parts
}

func TestDecodeOfTextsThatDoNotRise(t *testing.T) {
	things := []string{"", "\x00", "a", "aa", "b", "\xff"}
	for dims := 1; dims <= api.Dims; dims++ {
		for d := range dims {
			for i, a := range things {
				for j, b := range things {
					want := api.Malformed
					if i < j {
						want = api.OK
					}
					parts := withTexts(dims, d, []string{a, b})
					is(t, "two texts", want, dims, parts...)
					if i >= j {
						last := len(parts) - 1
						is(t, "texts that don't rise, cut short", api.Truncated, dims, slices.Concat(parts[:last]...), parts[last][:3])
						is(t, "texts that don't rise, bytes left", api.Malformed, dims, slices.Concat(parts...), []byte{0})
					}
					is(t, "two texts, one row", api.Malformed, dims, withTextsAndRows(dims, d, []string{a, b}, 1)...)
					for k, c := range things {
						want := api.Malformed
						if i < j && j < k {
							want = api.OK
						}
						is(t, "three texts", want, dims, withTexts(dims, d, []string{a, b, c})...)
						is(t, "three texts, two rows", api.Malformed, dims, withTextsAndRows(dims, d, []string{a, b, c}, 2)...)
						is(t, "three texts, one row", api.Malformed, dims, withTextsAndRows(dims, d, []string{a, b, c}, 1)...)
					}
				}
			}
		}
	}
}

func TestDecodeOfPlaces(t *testing.T) {
	for dims := 1; dims <= api.Dims; dims++ {
		for d := range dims {
			for _, place := range []uint64{0, 1, 2, 3, 127, 128, 65534, 65535, 65536, 65537, 1 << 32, 1<<32 + 1, math.MaxInt64, 1 << 63, 1<<63 + 1, math.MaxUint64} {
				parts := [][]byte{num(uint64(dims))}
				var places, zeros []byte
				for i := range dims {
					if i == d {
						parts = append(parts, texts("a", "b"))
						places = append(places, num(place)...)
					} else {
						parts = append(parts, texts("k"))
						places = append(places, 0)
					}
					zeros = append(zeros, 0)
				}
				first := slices.Concat(num(5), zeros, cell(1, 0, 0, 0))
				whole := slices.Concat(slices.Concat(parts...), num(2), first, num(1), places)
				want, cut := api.Malformed, api.Truncated
				if place == 1 {
					want = api.OK
				}
				if place > 65535 {
					cut = api.Malformed // told as it is read
				}
				what := "place " + strconv.FormatUint(place, 10)
				is(t, what, want, dims, whole, cell(1, 0, 0, 0))
				is(t, what+", cut short", cut, dims, whole)
				is(t, what+", cut short", cut, dims, whole, []byte{1, 0, 0})
				is(t, what+", bytes left", api.Malformed, dims, whole, cell(1, 0, 0, 0), []byte{0})
			}
		}
	}
	is(t, "a place where there are no texts", api.Malformed, 1, num(1), num(0), num(1), num(5), num(0), cell(1, 0, 0, 0))
	is(t, "a place where there are none in the second dimension", api.Malformed, 2, num(2), texts("a"), num(0), num(1), num(5), num(0), num(0), cell(1, 0, 0, 0))
}

func TestDecodeOfTextsAtNoRowsPlace(t *testing.T) {
	for dims := 1; dims <= api.Dims; dims++ {
		for d := range dims {
			is(t, "no row", api.Malformed, dims, slices.Concat(withTexts(dims, d, nil)[:d+1]...), texts(""), make([]byte, dims-d))
			for left := range 4 {
				parts := [][]byte{num(uint64(dims))}
				for i := range dims {
					if i == d {
						parts = append(parts, texts("", "a", "b", "c"))
					} else {
						parts = append(parts, texts("k"))
					}
				}
				parts = append(parts, num(3))
				for place := range 4 {
					if place == left {
						continue
					}
					row := append(num(1), make([]byte, dims)...)
					row[1+d] = byte(place)
					parts = append(parts, row, cell(1, 0, 0, 0))
				}
				is(t, "a text at no row's place", api.Malformed, dims, parts...)
				last := len(parts) - 1
				is(t, "a text at no row's place, cut short", api.Truncated, dims, parts[:last]...)
			}
			is(t, "each at one", api.OK, dims, withTexts(dims, d, []string{"", "a", "b", "c"})...)
		}
	}
}

// hours: a payload of rows of which each is so many hours behind the one ahead, with texts that rise.
func hours(l ...uint64) [][]byte {
	parts := [][]byte{num(1)}
	var all []string
	for i := range l {
		all = append(all, string(rune('a'+i)))
	}
	parts = append(parts, texts(all...), num(uint64(len(l))))
	for i, h := range l {
		parts = append(parts, num(h), num(uint64(i)), cell(1, 0, 0, 0))
	}
	return parts
}

func TestDecodeOfHours(t *testing.T) {
	l := []uint64{0, 1, 2, api.MaxHour / 2, api.MaxHour - 1, api.MaxHour, api.MaxHour + 1, api.MaxHour + 2, 1 << 25, 1 << 32, 1<<62 - 1, 1 << 62, math.MaxInt64, 1 << 63, 1<<63 + 1, 1<<64 - api.MaxHour - 1, 1<<64 - api.MaxHour, 1<<64 - 5, math.MaxUint64 - 1, math.MaxUint64}
	within := func(parts ...uint64) api.Fault { // of which each may be greater than all that there are together
		left := uint64(api.MaxHour)
		for _, h := range parts {
			if h > left {
				return api.Malformed
			}
			left -= h
		}
		return api.OK
	}
	for _, a := range l {
		is(t, "an hour", within(a), 1, hours(a)...)
		for _, b := range l {
			is(t, "two hours", within(a, b), 1, hours(a, b)...)
			for _, c := range l {
				is(t, "three hours", within(a, b, c), 1, hours(a, b, c)...)
			}
		}
		for n := 1; n <= 4; n++ {
			is(t, "an hour many times", within(slices.Repeat([]uint64{a}, n)...), 1, hours(slices.Repeat([]uint64{a}, n)...)...)
		}
		whole := slices.Concat(hours(a, 1)...)
		is(t, "hours, cut short", api.Truncated, 1, whole[:len(whole)-1])
		is(t, "hours, bytes left", api.Malformed, 1, whole, []byte{0})
	}
	many := append([]uint64{5}, slices.Repeat([]uint64{1 << 63}, 6)...) // which together are none above 64 bits
	is(t, "hours that together leave their type", api.Malformed, 1, hours(many...)...)
	is(t, "hours that together leave their type once", api.Malformed, 1, hours(3, math.MaxUint64, 3)...)
}

func TestDecodeOfCounts(t *testing.T) {
	front := slices.Concat(num(1), texts("a"), num(1), num(5), num(0))
	for _, c := range []struct {
		count uint64
		want  api.Fault
	}{
		{0, api.Malformed}, {1, api.OK}, {2, api.OK}, {1 << 32, api.OK}, {1 << 62, api.OK}, {math.MaxInt64 - 1, api.OK}, {math.MaxInt64, api.OK},
		{1 << 63, api.Malformed}, {1<<63 + 1, api.Malformed}, {1<<63 + 2, api.Malformed}, {math.MaxUint64 - 1, api.Malformed}, {math.MaxUint64, api.Malformed},
	} {
		is(t, "a Count", c.want, 1, front, cell(c.count, 4, 4, 4))
		is(t, "a Count, cut short", api.Truncated, 1, front, cell(c.count, 4, 4, 4)[:len(num(c.count))+2])
		is(t, "a Count, then a number that is too long", api.Malformed, 1, front, num(c.count), long(0))
	}
	is(t, "a Count of 0, all else too", api.Malformed, 1, front, cell(0, 0, 0, 0))
	is(t, "a Count above all, all else 0", api.Malformed, 1, front, cell(1<<63, 0, 0, 0))
}

func TestDecodeOfCells(t *testing.T) {
	numbers := []int64{0, 1, -1, 2, least, greatest}
	for _, count := range []uint64{0, 1, 2, 3, math.MaxInt64, 1 << 63, math.MaxUint64} {
		for _, sum := range numbers {
			for _, low := range numbers {
				for _, high := range numbers {
					want := api.Malformed
					if count == 1 && sum == low && low == high || count > 1 && count <= math.MaxInt64 && low <= high {
						want = api.OK
					}
					for wrong := range 3 {
						parts := [][]byte{num(1), texts("a", "b", "c"), num(3)}
						for i := range 3 {
							c := cell(1, 7, 7, 7)
							if i == wrong {
								c = cell(count, sum, low, high)
							}
							parts = append(parts, num(1), num(uint64(i)), c)
						}
						is(t, "a cell", want, 1, parts...)
						is(t, "a cell, cut short", api.Truncated, 1, parts[:len(parts)-1]...)
					}
				}
			}
		}
	}
}

// Where rows are of one hour, their places tell whether keys rise.
func TestDecodeOfKeysThatDoNotRise(t *testing.T) {
	for _, a := range [][2]byte{{0, 0}, {0, 1}, {1, 0}, {1, 1}} {
		for _, b := range [][2]byte{{0, 0}, {0, 1}, {1, 0}, {1, 1}} {
			for behind := range 3 {
				parts := [][]byte{num(2), texts("a", "b"), texts("x", "y"), num(4)}
				for _, k := range [][]byte{{4, 0, 0}, {1, a[0], a[1]}, {byte(behind), b[0], b[1]}, {1, 1, 1}} {
					parts = append(parts, k, cell(1, 0, 0, 0))
				}
				want := api.OK
				if behind == 0 && bytes.Compare(a[:], b[:]) >= 0 {
					want = api.Malformed
				}
				is(t, "keys", want, 2, parts...)
				is(t, "keys, cut short", api.Truncated, 2, parts[:len(parts)-1]...)
				is(t, "keys, bytes left", api.Malformed, 2, slices.Concat(parts...), []byte{1})
			}
		}
	}
}

// What is told as the payload is read comes ahead of what is told in the end; of two that are told as it is read the first one.
func TestDecodeOfTwoThatAreWrong(t *testing.T) {
	late := [][]byte{ // wrong, but read to their end
		slices.Concat(num(2), texts("a"), num(1), num(5), num(0), cell(1, 0, 0, 0)),
		slices.Concat(num(1), texts("b", "a"), num(1), num(5), num(0), cell(1, 0, 0, 0)),
		slices.Concat(num(1), texts("a", "a"), num(1), num(5), num(1), cell(1, 0, 0, 0)),
		slices.Concat(num(1), texts("a"), num(1), num(5), num(7), cell(1, 0, 0, 0)),
		slices.Concat(num(1), texts("a", "b"), num(1), num(5), num(0), cell(1, 0, 0, 0)),
		slices.Concat(num(1), texts("a"), num(1), num(api.MaxHour+1), num(0), cell(1, 0, 0, 0)),
		slices.Concat(num(1), texts("a"), num(1), num(5), num(0), cell(0, 0, 0, 0)),
		slices.Concat(num(1), texts("a"), num(1), num(5), num(0), cell(1<<63, 0, 0, 0)),
		slices.Concat(num(1), texts("a"), num(1), num(5), num(0), cell(1, 0, 0, 1)),
	}
	for _, p := range late {
		is(t, "wrong in the end", api.Malformed, 1, p)
		is(t, "wrong in the end, and bytes left", api.Malformed, 1, p, []byte{0})
		is(t, "wrong in the end, and cut short", api.Truncated, 1, p[:len(p)-1])
		is(t, "wrong in the end, and a number that is too long", api.Malformed, 1, p[:len(p)-1], long(0))
		is(t, "wrong in the end, and a number that is cut off", api.Truncated, 1, p[:len(p)-1], []byte{0x80})
	}
	is(t, "a text too long, and cut short", api.Malformed, 1, num(1), num(2), num(17))
	is(t, "cut short in a text", api.Truncated, 1, num(1), num(65536), num(16))
	is(t, "a place too high, and cut short", api.Malformed, 1, num(1), texts("a"), num(1), num(5), num(65536))
	is(t, "a far hour, and a place too high", api.Malformed, 1, num(1), texts("a"), num(1), num(1<<30), num(65536))
	is(t, "a far hour, and cut short", api.Truncated, 1, num(1), texts("a"), num(1), num(1<<30), num(65535))
}

// --- P1202, P1203 held against bytes read another way

// Good payloads, each byte changed into each other one, taken out, doubled, or put behind its neighbour, in good frames.
func TestDecodeOfChangedPayloads(t *testing.T) {
	seen := map[api.Fault]int{}
	for dims := 1; dims <= api.Dims; dims++ {
		for _, n := range []int{0, 1, 2, 4} {
			for seed := range uint64(3) {
				p := payloadOf(some(n, dims, seed), dims)
				for i := range p {
					seen[bothWays(t, framed(p[:i], p[i+1:]), dims)]++
					seen[bothWays(t, framed(p[:i+1], p[i:]), dims)]++
					changed := slices.Clone(p)
					for x := range 256 {
						changed[i] = byte(x)
						seen[bothWays(t, framed(changed), dims)]++
					}
					if i > 0 {
						changed[i], changed[i-1] = p[i-1], p[i]
						seen[bothWays(t, framed(changed), dims)]++
					}
				}
			}
		}
	}
	for _, fault := range []api.Fault{api.OK, api.Truncated, api.Malformed} {
		if seen[fault] < 1000 {
			t.Errorf("fault %d came %d times", fault, seen[fault])
		}
	}
}

// Whatever few bytes of these there are, behind some that make each of a payload's places come.
func TestDecodeOfAllBytesOfFewKinds(t *testing.T) {
	seen := map[api.Fault]int{}
	var try func(p []byte, dims, left int)
	try = func(p []byte, dims, left int) {
		seen[bothWays(t, framed(p), dims)]++
		if left == 0 {
			return
		}
		for _, next := range []byte{0, 1, 2, 3, 17, 0x80, 0xFF} {
			try(append(p[:len(p):len(p)], next), dims, left-1)
		}
	}
	try(nil, 1, 5)
	try([]byte{1}, 1, 5)
	try([]byte{1, 1, 0, 1, 5}, 1, 5)
	try([]byte{1, 2, 0, 1, 'a', 2, 5, 0, 1, 0, 0, 0}, 1, 6)
	try([]byte{1, 1, 0, 2, 5, 0, 1, 0, 0, 0, 0xFF, 0xFF, 0xFF, 7}, 1, 4)
	try([]byte{1, 1, 0, 1, 0, 0, 0xFF, 0xFF, 0xFF, 0xFF, 0xFF, 0xFF, 0xFF, 0xFF}, 1, 5)
	try([]byte{2}, 2, 5)
	try([]byte{2, 1, 1, 'a', 2, 0, 1, 'b', 2, 5, 0, 0, 1, 0, 0, 0}, 2, 5)
	try([]byte{4, 0, 0, 0, 0}, 4, 4)
	for _, fault := range []api.Fault{api.OK, api.Truncated, api.Malformed} {
		if seen[fault] < 10 {
			t.Errorf("fault %d came %d times", fault, seen[fault])
		}
	}
}

func TestDecodeOfBytesWithoutAPattern(t *testing.T) {
	throw := stir(9)
	for range 50000 {
		b := make([]byte, throw(40))
		for i := range b {
			b[i] = byte(throw(256) >> throw(8))
		}
		dims := 1 + throw(api.Dims)
		bothWays(t, b, dims)
		bothWays(t, framed(b), dims)
		bothWays(t, framed(num(uint64(dims)), b), dims)
	}
}

// --- P1203

func TestWhatIsEncodedIsDecodedAsItWas(t *testing.T) {
	for dims := 1; dims <= api.Dims; dims++ {
		for n := range 50 {
			for seed := range uint64(10) {
				rows := some(n, dims, 1000*seed+uint64(n))
				s := segOf(t, rows...)
				b, fault := Encode(s, dims)
				same(t, "Encode's fault", fault, api.OK)
				again, fault := Decode(b, dims)
				same(t, "Decode's fault", fault, api.OK)
				same(t, "whether it is the same", again.Same(s), true)
				same(t, "whether it is the same bytes", bothWays(t, b, dims), api.OK)
				for other := 1; other <= api.Dims; other++ {
					bothWays(t, b, other)
				}
			}
		}
	}
}

func TestOneSegmentForEachNumberOfDimensions(t *testing.T) { // has other bytes for each, all of them its own
	rows := []api.Row{rowOf(3, 1, "a"), rowOf(4, 1, "b")}
	for dims := 1; dims <= api.Dims; dims++ {
		b := encodes(t, "dims", rows, dims)
		for other := 1; other <= api.Dims; other++ {
			if _, fault := Decode(b, other); (fault == api.OK) != (other == dims) {
				t.Errorf("of %d, decoded as of %d: %d", dims, other, fault)
			}
		}
	}
}
