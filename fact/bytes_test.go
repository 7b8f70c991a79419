package fact

import (
	"bytes"
	"encoding/binary"
	"math"
	"slices"
	"strconv"
	"strings"
	"testing"

	"ossuary/api"
)

// sameBytes fails the test where got is not what the chapter says.
func sameBytes(t *testing.T, what string, got, want []byte) {
	t.Helper()
	if !bytes.Equal(got, want) {
		t.Errorf("%s: % X, not % X", what, got, want)
	}
}

// num, whole and text are a thing's bytes, made another way than by the program.
func num(n uint64) []byte {
	return binary.AppendUvarint(nil, n)
}

func whole(n int64) []byte {
	return binary.AppendVarint(nil, n)
}

func text(s string) []byte {
	return append(num(uint64(len(s))), s...)
}

// bytesOf: the bytes of facts by the chapter's words, right or not.
func bytesOf(l []api.Fact, dims int) []byte {
	b := num(uint64(len(l)))
	for _, f := range l {
		b = append(b, num(uint64(f.Key.Hour))...)
		for i := 0; i < dims; i++ {
			b = append(b, text(f.Key.Dims[i])...)
		}
		b = append(b, whole(f.Value)...)
	}
	return b
}

// long: a number in one byte more than it needs.
func long(n uint64) []byte {
	b := num(n)
	b[len(b)-1] |= 0x80
	return append(b, 0)
}

// encodes: what Encode answers, and that it changes nothing.
func encodes(t *testing.T, what string, l []api.Fact, dims int, want []byte) {
	t.Helper()
	l, unchanged := roomy(t, l)
	b, fault := Encode(l, dims)
	sameBytes(t, what, b, want)
	same(t, what+": fault", fault, api.OK)
	unchanged(what)
}

// refuses: that Encode answers a fault, and no bytes.
func refuses(t *testing.T, what string, l []api.Fact, dims int, want api.Fault) {
	t.Helper()
	l, unchanged := roomy(t, l)
	b, fault := Encode(l, dims)
	same(t, what+": fault", fault, want)
	sameBytes(t, what, b, nil)
	unchanged(what)
}

// reads: what Read answers, and that it changes nothing.
func reads(t *testing.T, what string, b []byte, dims int, want []api.Fact, fault api.Fault) {
	t.Helper()
	spare := append(slices.Clone(b), "spare"...)
	kept := slices.Clone(spare)
	l, f := Read(spare[:len(b)], dims)
	same(t, what+": fault", f, fault)
	tells(t, what, l, want)
	sameBytes(t, what+": what was handed in", spare, kept)
}

// --- P902 Encode

func TestEncodeOfTheExample(t *testing.T) {
	l := []api.Fact{factOf(5, -1, "a")}
	b := []byte{1, 5, 1, 0x61, 1}
	encodes(t, "the example", l, 1, b)
	reads(t, "the example", b, 1, l, api.OK)
}

func TestEncode(t *testing.T) {
	full := strings.Repeat("m", api.MaxText)
	for _, c := range []struct {
		what string
		l    []api.Fact
		dims int
		want []byte
	}{
		{"nothing in a fact", withValues(0), 1, []byte{1, 0, 0, 0}},
		{"nothing in a fact of 4 dimensions", withValues(0), 4, []byte{1, 0, 0, 0, 0, 0, 0}},
		{"two dimensions", []api.Fact{factOf(300, 1, "a", "bc")}, 2, []byte{1, 0xAC, 2, 1, 'a', 2, 'b', 'c', 2}},
		{"a gap", []api.Fact{factOf(1, 2, "", "", "c")}, 3, []byte{1, 1, 0, 0, 1, 'c', 4}},
		{"four dimensions", []api.Fact{factOf(1, 0, "a", "b", "c", "d")}, 4, []byte{1, 1, 1, 'a', 1, 'b', 1, 'c', 1, 'd', 0}},
		{"two facts, as they stand", []api.Fact{factOf(2, 64, "b"), factOf(1, -64, "a")}, 1, []byte{2, 2, 1, 'b', 0x80, 1, 1, 1, 'a', 0x7F}},
		{"alike facts", times(2, factOf(1, 1, "a")), 1, []byte{2, 1, 1, 'a', 2, 1, 1, 'a', 2}},
		{"no runes", []api.Fact{factOf(0, 0, "\xff\x00")}, 1, []byte{1, 0, 2, 0xFF, 0, 0}},
		{"the greatest", []api.Fact{factOf(api.MaxHour, api.MaxValue, full)}, 1,
			slices.Concat([]byte{1, 0x80, 0x80, 0x80, 8, 16}, []byte(full), []byte{0x80, 0x80, 0x80, 0x80, 0x80, 0x80, 0x80, 0x80, 0x20})},
		{"the least", []api.Fact{factOf(0, -api.MaxValue)}, 1, []byte{1, 0, 0, 0xFF, 0xFF, 0xFF, 0xFF, 0xFF, 0xFF, 0xFF, 0xFF, 0x1F}},
	} {
		encodes(t, c.what, c.l, c.dims, c.want)
	}
}

func TestEncodeOfSomeFacts(t *testing.T) {
	for dims := 1; dims <= api.Dims; dims++ {
		for n := 1; n <= api.MaxBatch; n++ {
			l := some(n, dims, uint64(100*dims+n))
			encodes(t, strconv.Itoa(n)+" facts", l, dims, bytesOf(l, dims))
		}
	}
}

func TestEncodeAnswersAllsFault(t *testing.T) {
	right := times(2, factOf(1, 2, "a", "b"))
	refuses(t, "nil", nil, 2, api.BadArg)
	refuses(t, "too many", times(api.MaxBatch+1, right[0]), 2, api.BadArg)
	for _, dims := range wrongDims() {
		refuses(t, "dims "+strconv.Itoa(dims), right, dims, api.BadArg)
		refuses(t, "no fact, dims "+strconv.Itoa(dims), nil, dims, api.BadArg)
		refuses(t, "dims ahead of a wrong fact", times(1, factOf(-1, 2)), dims, api.BadArg)
	}
	for _, first := range wrong() {
		refuses(t, "one", []api.Fact{first.fact}, 2, first.fault)
		refuses(t, "at the end", append(slices.Clone(right), first.fact), 2, first.fault)
		for _, then := range wrong() {
			refuses(t, "two", []api.Fact{right[0], first.fact, then.fact}, 2, first.fault)
		}
		refuses(t, "too many", append(times(api.MaxBatch, right[0]), first.fact), 2, api.BadArg)
	}
	refuses(t, "one dimension too few", right, 1, api.Malformed)
}

func TestEncodeAnswersNewBytes(t *testing.T) {
	l := times(2, factOf(1, 2, "a"))
	first, _ := Encode(l, 1)
	want := slices.Clone(first)
	for i := range first {
		first[i] = 0xEE
	}
	_ = append(first[:1], 7, 7, 7)
	encodes(t, "again", l, 1, want)
}

// --- P902 Read

func TestReadOfWrongDims(t *testing.T) {
	for _, dims := range wrongDims() {
		for _, b := range [][]byte{nil, {}, {1, 5, 1, 0x61, 1}, {0}, {51}, {0x80, 0}, {1, 5, 1, 0x61, 1, 9}} {
			reads(t, "dims "+strconv.Itoa(dims), b, dims, nil, api.BadArg)
		}
	}
}

func TestReadOfEachBeginning(t *testing.T) {
	for dims := 1; dims <= api.Dims; dims++ {
		for _, n := range []int{1, 2, 3, api.MaxBatch} {
			l := some(n, dims, uint64(n))
			b := bytesOf(l, dims)
			for end := range b {
				reads(t, "a beginning", b[:end], dims, nil, api.Truncated)
			}
			reads(t, "all", b, dims, l, api.OK)
		}
	}
	reads(t, "no bytes", nil, 1, nil, api.Truncated)
}

func TestReadOfBytesBehind(t *testing.T) {
	for dims := 1; dims <= api.Dims; dims++ {
		b := bytesOf(some(3, dims, 5), dims)
		for _, behind := range [][]byte{{0}, {1}, {0x80}, {0xFF}, {0, 0}, b, bytes.Repeat([]byte{0}, 300)} {
			reads(t, "bytes behind", slices.Concat(b, behind), dims, nil, api.Malformed)
		}
	}
}

// Where each kind of number of a batch has more bytes than it needs.
func TestReadOfLongNumbers(t *testing.T) {
	hour, name, value := num(5), text("a"), whole(-1)
	for _, c := range []struct {
		what string
		b    []byte
	}{
		{"count", slices.Concat(long(1), hour, name, value)},
		{"hour", slices.Concat(num(1), long(5), name, value)},
		{"hour 0", slices.Concat(num(1), long(0), name, value)},
		{"greatest hour", slices.Concat(num(1), long(api.MaxHour), name, value)},
		{"hour above it", slices.Concat(num(1), long(api.MaxHour+1), name, value)},
		{"length", slices.Concat(num(1), hour, long(1), []byte("a"), value)},
		{"length 0", slices.Concat(num(1), hour, long(0), value)},
		{"value", slices.Concat(num(1), hour, name, long(1))},
		{"value 0", slices.Concat(num(1), hour, name, long(0))},
		{"value above the greatest", slices.Concat(num(1), hour, name, long(2*api.MaxValue+2))},
		{"second hour", slices.Concat(num(2), hour, name, value, long(5), name, value)},
		{"second value", slices.Concat(num(2), hour, name, value, hour, name, long(1))},
		{"count with nothing behind", long(1)},
		{"count 0", long(0)},
		{"count of eleven bytes", append(bytes.Repeat([]byte{0x81}, 10), 0)},
		{"hour above 64 bits", slices.Concat(num(1), bytes.Repeat([]byte{0xFF}, 9), []byte{2}, name, value)},
	} {
		reads(t, c.what, c.b, 1, nil, api.Malformed)
	}
}

func TestReadOfCounts(t *testing.T) {
	one := slices.Concat(num(5), text("a"), whole(-1))
	for n := 1; n <= api.MaxBatch; n++ {
		reads(t, "count "+strconv.Itoa(n), append(num(uint64(n)), bytes.Repeat(one, n)...), 1, times(n, factOf(5, -1, "a")), api.OK)
		reads(t, "one fact fewer", append(num(uint64(n)), bytes.Repeat(one, n-1)...), 1, nil, api.Truncated)
		reads(t, "one fact more", append(num(uint64(n)), bytes.Repeat(one, n+1)...), 1, nil, api.Malformed)
	}
	for _, n := range []uint64{api.MaxBatch + 1, api.MaxBatch + 2, 127, 128, 256, 257, 1 << 32, 1<<32 + 1, math.MaxInt64, 1 << 63, math.MaxUint64} {
		b := append(num(n), bytes.Repeat(one, 60)...)
		reads(t, "a count above MaxBatch", b, 1, nil, api.Malformed)
		reads(t, "a count above MaxBatch, with nothing behind", num(n), 1, nil, api.Malformed)
	}
	reads(t, "as many as a count above MaxBatch says", append(num(51), bytes.Repeat(one, 51)...), 1, nil, api.Malformed)
}

// Facts that are wrong only as a whole batch is: that is told behind all that is told as they are read.
func TestReadTellsAllsFaultLast(t *testing.T) {
	high, low := whole(api.MaxValue+1), whole(-api.MaxValue-1)
	reads(t, "no fact", []byte{0}, 1, nil, api.BadArg)
	reads(t, "no fact, bytes behind", []byte{0, 0}, 1, nil, api.Malformed)
	for _, value := range [][]byte{high, low, whole(least), whole(greatest)} {
		b := slices.Concat(num(1), num(5), text("a"), value)
		reads(t, "a value out of its range", b, 1, nil, api.Range)
		reads(t, "a value out of its range, bytes behind", append(b, 0), 1, nil, api.Malformed)
		first := slices.Concat(num(2), num(5), text("a"), value)
		reads(t, "a value out of its range, cut off", first, 1, nil, api.Truncated)
		reads(t, "a value out of its range, then a text", slices.Concat(first, num(5), num(17)), 1, nil, api.Malformed)
		reads(t, "a value out of its range, then a right fact", slices.Concat(first, num(5), text(""), whole(0)), 1, nil, api.Range)
		reads(t, "a value out of its range behind a right fact", slices.Concat(num(2), num(5), text(""), whole(0), num(5), text("a"), value), 1, nil, api.Range)
	}
	for _, value := range []int64{api.MaxValue, -api.MaxValue} {
		reads(t, "a value at its end", slices.Concat(num(1), num(5), text("a"), whole(value)), 1, []api.Fact{factOf(5, value, "a")}, api.OK)
	}
}

func TestReadOfTexts(t *testing.T) {
	for dims := 1; dims <= api.Dims; dims++ {
		for i := range dims {
			for _, n := range []int{0, 1, 15, 16, 17, 18, 127, 128, 300} {
				f := withText(i, strings.Repeat("x", n))
				want, fault := []api.Fact{f}, api.OK
				if n > api.MaxText {
					want, fault = nil, api.Malformed
				}
				reads(t, "a text of "+strconv.Itoa(n), bytesOf([]api.Fact{f}, dims), dims, want, fault)
			}
		}
	}
	front := slices.Concat(num(1), num(5))
	reads(t, "a text too long, and not there", append(slices.Clone(front), 17), 1, nil, api.Malformed)
	reads(t, "a text that is not all there", append(slices.Clone(front), 16, 'a'), 1, nil, api.Truncated)
	reads(t, "a length that is no int", slices.Concat(front, num(math.MaxUint64)), 1, nil, api.Malformed)
	reads(t, "bytes that are no runes", slices.Concat(front, []byte{3, 0xFF, 0x80, 0, 0}), 1, []api.Fact{factOf(5, 0, "\xff\x80\x00")}, api.OK)
}

// An hour above MaxHour is told as soon as it is read: ahead of all that is wrong behind it, and behind all that is wrong ahead of it.
func TestReadOfHours(t *testing.T) {
	right := slices.Concat(num(5), text("a"), whole(-1))
	for _, hour := range []uint64{api.MaxHour + 1, api.MaxHour + 2, 1 << 25, 1 << 32, 1<<32 + 5, math.MaxInt64, 1 << 63, 1<<63 + 5, math.MaxUint64} {
		far := num(hour)
		for _, behind := range [][]byte{nil, {17}, {1}, {0x80, 0}, {0, 0}, {0, 0, 9}, {0, 0x80}, slices.Concat(text("a"), whole(greatest))} {
			reads(t, "a far hour", slices.Concat(num(1), far, behind), 1, nil, api.Range)
			reads(t, "a far hour of two facts", slices.Concat(num(2), far, behind), 1, nil, api.Range)
			reads(t, "a far hour behind a fact", slices.Concat(num(2), right, far, behind), 1, nil, api.Range)
			reads(t, "a far hour behind a wrong value", slices.Concat(num(2), num(5), text("a"), whole(greatest), far, behind), 1, nil, api.Range)
		}
		reads(t, "a far hour behind a text too long", slices.Concat(num(2), num(5), text(strings.Repeat("x", 17)), whole(0), far), 1, nil, api.Malformed)
		reads(t, "a far hour behind a count too high", append(num(51), far...), 1, nil, api.Malformed)
		reads(t, "a far hour behind all that is read", slices.Concat(num(1), right, far), 1, nil, api.Malformed)
		reads(t, "a far hour, cut off", slices.Concat(num(1), far[:len(far)-1]), 1, nil, api.Truncated)
	}
	for _, hour := range []uint64{0, 1, 127, 128, api.MaxHour - 1, api.MaxHour} {
		reads(t, "an hour", slices.Concat(num(1), num(hour), text("a"), whole(3)), 1, []api.Fact{factOf(int64(hour), 3, "a")}, api.OK)
	}
}

// Bytes of so many dimensions, read as those of others.
func TestReadForOtherDims(t *testing.T) {
	b := []byte{1, 5, 1, 'a', 1, 'b', 4}
	reads(t, "of 2", b, 2, []api.Fact{factOf(5, 2, "a", "b")}, api.OK)
	reads(t, "of 2, for 1", b, 1, nil, api.Malformed)
	reads(t, "of 2, for 3", b, 3, nil, api.Truncated)
	b = []byte{1, 5, 0, 0, 0, 0, 0}
	reads(t, "of 4", b, 4, []api.Fact{factOf(5, 0)}, api.OK)
	reads(t, "of 4, for 3", b, 3, nil, api.Malformed)
}

func TestReadKeepsNothing(t *testing.T) {
	b := []byte{2, 5, 1, 'a', 1, 6, 1, 'b', 2}
	want := []api.Fact{factOf(5, -1, "a"), factOf(6, 1, "b")}
	l, _ := Read(b, 1)
	for i := range b {
		b[i] = 'z'
	}
	tells(t, "Read, and its bytes changed", l, want)
	b = []byte{2, 5, 1, 'a', 1, 6, 1, 'b', 2}
	l[0], l[1] = factOf(0, 0), factOf(0, 0)
	reads(t, "again", b, 1, want, api.OK)
}

// --- P902, P903 held against bytes read another way

// walker reads bytes by the chapter's words, another way than the program, up to the first fault.
type walker struct {
	b     []byte
	fault api.Fault
}

func (w *walker) num() uint64 {
	if w.fault != api.OK {
		return 0
	}
	n, size := binary.Uvarint(w.b)
	switch {
	case size == 0 && len(w.b) < 10:
		w.fault = api.Truncated
	case size <= 0 || len(num(n)) != size:
		w.fault = api.Malformed
	default:
		w.b = w.b[size:]
		return n
	}
	return 0
}

// upTo: a number, or a fault, if it is above most.
func (w *walker) upTo(most uint64, fault api.Fault) uint64 {
	n := w.num()
	if w.fault == api.OK && n > most {
		w.fault, n = fault, 0
	}
	return n
}

func (w *walker) text() string {
	n := w.upTo(api.MaxText, api.Malformed)
	if w.fault == api.OK && n > uint64(len(w.b)) {
		w.fault, n = api.Truncated, 0
	}
	s := string(w.b[:n])
	w.b = w.b[n:]
	return s
}

func (w *walker) value() int64 {
	n := w.num()
	if n%2 == 1 {
		return -int64(n/2) - 1
	}
	return int64(n / 2)
}

// readAs: what Read answers by the chapter's words, of dims from 1 to Dims.
func readAs(b []byte, dims int) ([]api.Fact, api.Fault) {
	w := walker{b: b}
	var l []api.Fact
	late := api.OK
	for range w.upTo(api.MaxBatch, api.Malformed) {
		f := factOf(int64(w.upTo(api.MaxHour, api.Range)), 0)
		for i := range dims {
			f.Key.Dims[i] = w.text()
		}
		f.Value = w.value()
		if f.Value > api.MaxValue || f.Value < -api.MaxValue {
			late = api.Range
		}
		l = append(l, f)
	}
	switch {
	case w.fault != api.OK:
		return nil, w.fault
	case len(w.b) > 0:
		return nil, api.Malformed
	case len(l) == 0:
		return nil, api.BadArg
	case late != api.OK:
		return nil, late
	}
	return l, api.OK
}

// bothWays: Read is as the chapter says, and what is read is encoded as it was.
func bothWays(t *testing.T, b []byte, dims int) api.Fault {
	t.Helper()
	l, fault := Read(b, dims)
	want, wantFault := readAs(b, dims)
	if fault != wantFault || !slices.Equal(l, want) {
		t.Fatalf("Read(% X, %d): %v, %d, not %v, %d", b, dims, l, fault, want, wantFault)
	}
	if fault == api.OK {
		encodes(t, "read and encoded", l, dims, b)
	}
	return fault
}

// Whatever few bytes of these there are, behind some that make each of a batch's places come.
func TestReadOfAllBytesOfFewKinds(t *testing.T) {
	seen := map[api.Fault]int{}
	var try func(b []byte, dims, left int)
	try = func(b []byte, dims, left int) {
		seen[bothWays(t, b, dims)]++
		if left == 0 {
			return
		}
		for _, next := range []byte{0, 1, 2, 17, 51, 0x80, 0xFF} {
			try(append(b[:len(b):len(b)], next), dims, left-1)
		}
	}
	for dims := 1; dims <= api.Dims; dims++ {
		try(nil, dims, 5)
		try([]byte{1, 1}, dims, 5)
		try([]byte{2, 0, 0, 0}, dims, 4)
		try([]byte{1, 0x80, 0x80, 0x80}, dims, 3)
		try(append([]byte{1, 0, 0}, bytes.Repeat([]byte{0xFF}, 8)...), dims, 3)
		try(append([]byte{1}, bytes.Repeat([]byte{0xFF}, 8)...), dims, 3)
	}
	for _, fault := range []api.Fault{api.OK, api.BadArg, api.Range, api.Truncated, api.Malformed} {
		if seen[fault] == 0 {
			t.Errorf("fault %d never came", fault)
		}
	}
}

// Bytes of batches, each byte changed into each other one, or taken out, or doubled.
func TestReadOfChangedBytes(t *testing.T) {
	for dims := 1; dims <= api.Dims; dims++ {
		b := bytesOf(some(4, dims, uint64(dims)), dims)
		for i := range b {
			bothWays(t, slices.Concat(b[:i], b[i+1:]), dims)
			bothWays(t, slices.Concat(b[:i+1], b[i:]), dims)
			for n := range 256 {
				changed := slices.Clone(b)
				changed[i] = byte(n)
				bothWays(t, changed, dims)
			}
		}
	}
}

func TestReadOfBytesWithoutAPattern(t *testing.T) {
	throw := stir(9)
	for range 50000 {
		b := make([]byte, throw(40))
		for i := range b {
			b[i] = byte(throw(256) >> throw(8))
		}
		bothWays(t, b, 1+throw(api.Dims))
	}
}

// --- P903

func TestWhatIsEncodedIsReadAsItWas(t *testing.T) {
	for dims := 1; dims <= api.Dims; dims++ {
		for n := 1; n <= api.MaxBatch; n++ {
			for seed := range uint64(5) {
				l := some(n, dims, 1000*seed+uint64(n))
				b, fault := Encode(l, dims)
				same(t, "Encode's fault", fault, api.OK)
				reads(t, strconv.Itoa(n)+" facts", b, dims, l, api.OK)
			}
		}
	}
}

// Facts at all ends of what is right.
func TestFactsAtTheirEndsAreReadAsTheyWere(t *testing.T) {
	full := strings.Repeat("\xff", api.MaxText)
	var l []api.Fact
	for _, hour := range []int64{0, api.MaxHour} {
		for _, value := range []int64{0, api.MaxValue, -api.MaxValue} {
			for _, s := range []string{"", full} {
				l = append(l, factOf(hour, value, s, "", s, full))
			}
		}
	}
	for _, batch := range [][]api.Fact{l, times(api.MaxBatch, factOf(api.MaxHour, -api.MaxValue, full, full, full, full))} {
		b, fault := Encode(batch, api.Dims)
		same(t, "Encode's fault", fault, api.OK)
		reads(t, "facts at their ends", b, api.Dims, batch, api.OK)
	}
}
