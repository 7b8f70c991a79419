package ask

import (
	"bytes"
	"encoding/binary"
	"math"
	"slices"
	"strconv"
	"strings"
	"testing"

	"ossuary/api"
)

// sameBytes fails the test where got is not what the chapter says.
func sameBytes(t *testing.T, what string, got, want []byte) {
	t.Helper()
	if !bytes.Equal(got, want) {
		t.Errorf("%s: % X, not % X", what, got, want)
	}
}

// num and text are a thing's bytes, made another way than by the program.
func num(n uint64) []byte {
	return binary.AppendUvarint(nil, n)
}

func text(s string) []byte {
	return append(num(uint64(len(s))), s...)
}

// long: a number in one byte more than it needs.
func long(n uint64) []byte {
	b := num(n)
	b[len(b)-1] |= 0x80
	return append(b, 0)
}

// bytesOf: the bytes of a query by the chapter's words, right or not.
func bytesOf(q api.Query, dims int) []byte {
	b := slices.Concat(num(uint64(q.From)), num(uint64(q.To)))
	for i := 0; i < dims; i++ {
		for _, flag := range []bool{q.Group[i], q.Has[i]} {
			if flag {
				b = append(b, 1)
			} else {
				b = append(b, 0)
			}
		}
		if q.Has[i] {
			b = append(b, text(q.Filter[i])...)
		}
	}
	return b
}

// encodes: what Encode answers.
func encodes(t *testing.T, what string, q api.Query, dims int, want []byte) {
	t.Helper()
	b, fault := Encode(q, dims)
	same(t, what+": fault", fault, api.OK)
	sameBytes(t, what, b, want)
}

// refuses: that Encode answers a fault, and no bytes.
func refuses(t *testing.T, what string, q api.Query, dims int, want api.Fault) {
	t.Helper()
	b, fault := Encode(q, dims)
	same(t, what+": fault", fault, want)
	sameBytes(t, what, b, nil)
}

// reads: what Read answers, and that it changes nothing.
func reads(t *testing.T, what string, b []byte, dims int, want api.Query, fault api.Fault) {
	t.Helper()
	spare := append(slices.Clone(b), "spare"...)
	kept := slices.Clone(spare)
	q, f := Read(spare[:len(b)], dims)
	same(t, what+": fault", f, fault)
	same(t, what, q, want)
	sameBytes(t, what+": what was handed in", spare, kept)
}

// fails: that Read answers a fault, and no query.
func fails(t *testing.T, what string, b []byte, dims int, fault api.Fault) {
	t.Helper()
	reads(t, what, b, dims, api.Query{}, fault)
}

// stir hands out numbers from 0 to below, without a pattern, the same ones in each run.
func stir(seed uint64) func(below int) int {
	return func(below int) int {
		seed = seed*6364136223846793005 + 1442695040888963407
		return int(seed>>33) % below
	}
}

// some: a query that is right for so many dimensions, without a pattern.
func some(dims int, seed uint64) api.Query {
	throw := stir(seed)
	hours := []int64{0, 1, 2, 127, 128, 300, 1 << 14, api.MaxHour - 1, api.MaxHour, api.MaxHour + 1}
	filters := []string{"", "a", "ab", "\x7f", "\xff\x00", "€", strings.Repeat("z", 16)}
	from := throw(len(hours))
	q := queryOf(hours[from], hours[from+throw(len(hours)-from)])
	for i := range dims {
		p := part{throw(2) == 1, throw(2) == 1, ""}
		if p.has {
			p.filter = filters[throw(len(filters))]
		}
		p.put(&q, i)
	}
	return q
}

// rightParts: all that a query may have in a dimension with any of some texts.
func rightParts(texts ...string) []part {
	return slices.DeleteFunc(parts(texts...), func(p part) bool { return p.filter != "" && !p.has })
}

// --- P1302 Encode

func TestEncodeOfTheExample(t *testing.T) {
	q := queryOf(3, 5, part{true, false, ""})
	b := []byte{0x03, 0x05, 0x01, 0x00}
	encodes(t, "the example", q, 1, b)
	reads(t, "the example", b, 1, q, api.OK)
}

func TestEncode(t *testing.T) {
	full := strings.Repeat("m", 16)
	for _, c := range []struct {
		what string
		q    api.Query
		dims int
		want []byte
	}{
		{"nothing", api.Query{}, 1, []byte{0, 0, 0, 0}},
		{"nothing in 2", api.Query{}, 2, []byte{0, 0, 0, 0, 0, 0}},
		{"nothing in 3", api.Query{}, 3, []byte{0, 0, 0, 0, 0, 0, 0, 0}},
		{"nothing in 4", api.Query{}, 4, []byte{0, 0, 0, 0, 0, 0, 0, 0, 0, 0}},
		{"grouped", queryOf(0, 1, part{true, false, ""}), 1, []byte{0, 1, 1, 0}},
		{"filtered on no text", queryOf(0, 1, part{false, true, ""}), 1, []byte{0, 1, 0, 1, 0}},
		{"filtered on one", queryOf(0, 1, part{false, true, "a"}), 1, []byte{0, 1, 0, 1, 1, 'a'}},
		{"both", queryOf(0, 1, part{true, true, "ab"}), 1, []byte{0, 1, 1, 1, 2, 'a', 'b'}},
		{"no letters", queryOf(0, 1, part{false, true, "\xff\x00"}), 1, []byte{0, 1, 0, 1, 2, 0xFF, 0}},
		{"a rune of 3 bytes", queryOf(0, 1, part{false, true, "€"}), 1, []byte{0, 1, 0, 1, 3, 0xE2, 0x82, 0xAC}},
		{"as long as may be", queryOf(0, 1, part{false, true, full}), 1, append([]byte{0, 1, 0, 1, 16}, full...)},
		{"long hours", queryOf(300, api.MaxHour, part{}), 1, []byte{0xAC, 2, 0x80, 0x80, 0x80, 8, 0, 0}},
		{"the greatest hours", queryOf(api.MaxHour+1, api.MaxHour+1), 1, []byte{0x81, 0x80, 0x80, 8, 0x81, 0x80, 0x80, 8, 0, 0}},
		{"two dimensions", queryOf(3, 9, part{true, false, ""}, part{false, true, "x"}), 2, []byte{3, 9, 1, 0, 0, 1, 1, 'x'}},
		{"three", queryOf(3, 9, part{false, true, "x"}, part{}, part{true, true, ""}), 3, []byte{3, 9, 0, 1, 1, 'x', 0, 0, 1, 1, 0}},
		{"four", queryOf(3, 9, part{}, part{true, true, "b"}, part{true, false, ""}, part{false, true, "d"}), 4, []byte{3, 9, 0, 0, 1, 1, 1, 'b', 1, 0, 0, 1, 1, 'd'}},
	} {
		encodes(t, c.what, c.q, c.dims, c.want)
		reads(t, c.what, c.want, c.dims, c.q, api.OK)
	}
}

// Of each number of dimensions, each choice of Group and Has; and what Check faults.
func TestEncodeOfAllDimensionsAtOnce(t *testing.T) {
	each(3, 300, parts("", "a", strings.Repeat("z", 16)), func(q api.Query) {
		for dims := 1; dims <= 4; dims++ {
			if fault := checkAs(q, dims); fault != api.OK {
				refuses(t, "what Check faults", q, dims, fault)
				continue
			}
			b := bytesOf(q, dims)
			encodes(t, "what is right", q, dims, b)
			reads(t, "what is right", b, dims, q, api.OK)
		}
	})
}

func TestEncodeOfFilters(t *testing.T) {
	for _, s := range texts() {
		for dims := 1; dims <= 4; dims++ {
			for i := range 4 {
				q := queryOf(1, 2)
				part{false, true, s}.put(&q, i)
				if fault := checkAs(q, dims); fault != api.OK {
					refuses(t, strconv.Quote(s), q, dims, fault)
				} else {
					encodes(t, strconv.Quote(s), q, dims, bytesOf(q, dims))
				}
			}
		}
	}
}

func TestEncodeOfAllPairsOfHours(t *testing.T) {
	for _, from := range edges() {
		for _, to := range edges() {
			q := queryOf(from, to, part{true, true, "a"})
			if fault := checkAs(q, 1); fault != api.OK {
				refuses(t, "hours", q, 1, fault)
			} else {
				encodes(t, "hours", q, 1, bytesOf(q, 1))
			}
		}
	}
}

func TestEncodeAnswersChecksFault(t *testing.T) {
	for _, dims := range wrongDims() {
		refuses(t, "dims "+strconv.Itoa(dims), queryOf(3, 5), dims, api.BadArg)
		refuses(t, "dims, and hours", queryOf(5, 3), dims, api.BadArg)
	}
	for dims := 1; dims <= 4; dims++ {
		refuses(t, "From below 0", queryOf(-1, 3), dims, api.Range)
		refuses(t, "From above To", queryOf(4, 3), dims, api.Range)
		refuses(t, "To", queryOf(4, api.MaxHour+2), dims, api.Range)
		refuses(t, "hours, and a filter", queryOf(4, 3, part{false, false, "a"}), dims, api.Range)
		refuses(t, "a filter without Has", queryOf(3, 4, part{false, false, "a"}), dims, api.Malformed)
		refuses(t, "a filter too long", queryOf(3, 4, part{false, true, strings.Repeat("z", 17)}), dims, api.Malformed)
	}
	refuses(t, "a dimension that is not among these", queryOf(3, 4, part{}, part{true, false, ""}), 1, api.Malformed)
}

func TestEncodeAnswersNewBytes(t *testing.T) {
	q := queryOf(3, 9, part{true, true, "abc"}, part{})
	first, _ := Encode(q, 2)
	want := slices.Clone(first)
	for i := range first {
		first[i] = 0xEE
	}
	_ = append(first[:1], 7, 7, 7)
	encodes(t, "again", q, 2, want)
}

// --- P1302 Read

func TestReadOfWrongDims(t *testing.T) {
	for _, dims := range wrongDims() {
		for _, b := range [][]byte{nil, {}, {3, 5, 1, 0}, {3, 5, 1, 0, 0, 0, 0, 0, 0, 0}, {0, 0}, {5, 3}, {0x80, 0}, {3, 5, 2}, {3, 5, 1, 0, 9}, num(math.MaxUint64)} {
			fails(t, "dims "+strconv.Itoa(dims), b, dims, api.BadArg)
		}
	}
}

func TestReadOfEachBeginning(t *testing.T) {
	for dims := 1; dims <= 4; dims++ {
		fails(t, "nil", nil, dims, api.Truncated)
		fails(t, "no bytes", []byte{}, dims, api.Truncated)
		for seed := range uint64(100) {
			q := some(dims, seed)
			b := bytesOf(q, dims)
			for end := range b {
				fails(t, "a beginning", b[:end], dims, api.Truncated)
			}
			reads(t, "all", b, dims, q, api.OK)
		}
	}
}

func TestReadOfBytesBehind(t *testing.T) {
	for dims := 1; dims <= 4; dims++ {
		for seed := range uint64(20) {
			b := bytesOf(some(dims, seed), dims)
			for _, behind := range [][]byte{{0}, {1}, {2}, {0x80}, {0xFF}, {0, 0, 0}, b, bytes.Repeat([]byte{0}, 300)} {
				fails(t, "bytes behind", slices.Concat(b, behind), dims, api.Malformed)
			}
		}
	}
}

// Bytes of so many dimensions, read as those of others.
func TestReadForOtherDims(t *testing.T) {
	b := []byte{3, 5, 1, 0, 0, 1, 1, 'b'}
	reads(t, "of 2", b, 2, queryOf(3, 5, part{true, false, ""}, part{false, true, "b"}), api.OK)
	fails(t, "of 2, for 1", b, 1, api.Malformed)
	fails(t, "of 2, for 3", b, 3, api.Truncated)
	fails(t, "of 2, for 4", b, 4, api.Truncated)
	for of := 1; of <= 4; of++ {
		for dims := 1; dims <= 4; dims++ {
			for seed := range uint64(20) {
				q := some(of, seed)
				switch b := bytesOf(q, of); {
				case of > dims:
					fails(t, "of more", b, dims, api.Malformed)
				case of < dims:
					fails(t, "of fewer", b, dims, api.Truncated)
				default:
					reads(t, "of as many", b, dims, q, api.OK)
				}
			}
		}
	}
}

// Where each number of a query has more bytes than it needs, or more than any has.
func TestReadOfLongNumbers(t *testing.T) {
	rest := []byte{0, 1, 1, 'a'}
	for _, c := range []struct {
		what string
		b    []byte
	}{
		{"From", slices.Concat(long(3), num(5), rest)},
		{"From of 0", slices.Concat(long(0), num(5), rest)},
		{"From above To", slices.Concat(long(9), num(5), rest)},
		{"From above 2^62", slices.Concat(long(1<<62+1), num(5), rest)},
		{"To", slices.Concat(num(3), long(5), rest)},
		{"To of 0", slices.Concat(num(0), long(0), rest)},
		{"To above MaxHour", slices.Concat(num(3), long(api.MaxHour+2), rest)},
		{"To behind a From above 2^62", slices.Concat(num(1<<63), long(5), rest)},
		{"length", slices.Concat(num(3), num(5), []byte{0, 1}, long(1), []byte("a"))},
		{"length of 0", slices.Concat(num(3), num(5), []byte{0, 1}, long(0))},
		{"From with nothing behind", long(3)},
		{"To with nothing behind", append(num(3), long(5)...)},
		{"From above 64 bits", slices.Concat(bytes.Repeat([]byte{0xFF}, 9), []byte{2}, num(5), rest)},
		{"To above 64 bits", slices.Concat(num(3), bytes.Repeat([]byte{0xFF}, 9), []byte{2}, rest)},
		{"From of eleven bytes", slices.Concat(bytes.Repeat([]byte{0x81}, 10), []byte{0}, num(5), rest)},
		{"To of eleven bytes", slices.Concat(num(3), bytes.Repeat([]byte{0x81}, 10), []byte{1}, rest)},
	} {
		fails(t, c.what, c.b, 1, api.Malformed)
	}
}

func TestReadOfHours(t *testing.T) {
	hours := []uint64{0, 1, 2, 127, 128, 1<<24 - 1, 1 << 24, 1<<24 + 1, 1<<24 + 2, 1 << 25, 1 << 32, 1<<32 + 1, 1<<62 - 1, 1 << 62, 1<<62 + 1,
		1<<63 - 1, 1 << 63, 1<<63 + 1, 1<<63 + 5, math.MaxUint64 - 1, math.MaxUint64}
	for _, from := range hours {
		for _, to := range hours {
			b := slices.Concat(num(from), num(to), []byte{1, 1, 1, 'a'})
			if from <= to && to <= 1<<24+1 {
				reads(t, "hours that are right", b, 1, queryOf(int64(from), int64(to), part{true, true, "a"}), api.OK)
				continue
			}
			what := strconv.FormatUint(from, 10) + " to " + strconv.FormatUint(to, 10)
			fails(t, what, b, 1, api.Range)
			fails(t, what+", of more dimensions", append(slices.Clone(b), 0, 0, 0, 0, 0, 0), 4, api.Range)
			fails(t, what+", bytes behind", append(slices.Clone(b), 0), 1, api.Malformed)
			fails(t, what+", cut off", b[:len(b)-1], 1, api.Truncated)
			fails(t, what+", of another number of dimensions", b, 2, api.Truncated)
			fails(t, what+", and no more", slices.Concat(num(from), num(to)), 1, api.Truncated)
			fails(t, what+", and a wrong Bool", slices.Concat(num(from), num(to), []byte{2, 0}), 1, api.Malformed)
			fails(t, what+", and a text too long", slices.Concat(num(from), num(to), []byte{0, 1, 17}), 1, api.Malformed)
		}
	}
}

func TestReadOfBools(t *testing.T) {
	for n := range 256 {
		want, fault := []api.Query{queryOf(3, 5, part{n == 1, false, ""}), queryOf(3, 5, part{false, n == 1, ""})}, api.OK
		if n > 1 {
			want, fault = []api.Query{{}, {}}, api.Malformed
		}
		reads(t, "Group "+strconv.Itoa(n), []byte{3, 5, byte(n), 0}, 1, want[0], fault)
		b := []byte{3, 5, 0, byte(n)}
		if n == 1 {
			b = append(b, 0)
		}
		reads(t, "Has "+strconv.Itoa(n), b, 1, want[1], fault)
	}
	for dims := 1; dims <= 4; dims++ {
		good := append([]byte{3, 5}, make([]byte, 2*dims)...)
		for i := range 2 * dims {
			for _, wrong := range []byte{2, 3, 0x7F, 0x80, 0x81, 0xFF} {
				b := slices.Clone(good)
				b[2+i] = wrong
				fails(t, "a Bool", b, dims, api.Malformed)
				fails(t, "a Bool, and nothing behind", b[:3+i], dims, api.Malformed)
				fails(t, "a Bool, and bytes behind", append(b, 0), dims, api.Malformed)
			}
		}
	}
}

func TestReadOfTexts(t *testing.T) {
	for _, s := range texts() {
		for dims := 1; dims <= 4; dims++ {
			for i := range dims {
				q := queryOf(3, 5)
				part{i%2 == 0, true, s}.put(&q, i)
				b := bytesOf(q, dims)
				if len(s) > 16 {
					fails(t, "a text of "+strconv.Itoa(len(s)), b, dims, api.Malformed)
				} else {
					reads(t, "a text of "+strconv.Itoa(len(s)), b, dims, q, api.OK)
				}
			}
		}
	}
	front := []byte{3, 5, 0, 1}
	for _, n := range []uint64{17, 18, 127, 128, 256, 257, 1 << 32, 1<<32 + 1, math.MaxInt64, 1 << 63, math.MaxUint64} {
		fails(t, "a text too long, and not there", slices.Concat(front, num(n)), 1, api.Malformed)
		fails(t, "a text too long, and a part of it", slices.Concat(front, num(n), []byte("abc")), 1, api.Malformed)
	}
	for n := 1; n <= 16; n++ {
		for there := range n {
			fails(t, "a text that is not all there", slices.Concat(front, num(uint64(n)), bytes.Repeat([]byte{'a'}, there)), 1, api.Truncated)
		}
	}
	fails(t, "a text that takes the next dimension's bytes", []byte{3, 5, 0, 1, 2, 0, 0}, 2, api.Truncated)
	reads(t, "a text of a next dimension's bytes", []byte{3, 5, 0, 1, 2, 0, 0, 1, 0}, 2, queryOf(3, 5, part{false, true, "\x00\x00"}, part{true, false, ""}), api.OK)
}

// Of two things that are wrong the one that is read first is told, and each of them ahead of what is told at the end.
func TestReadTellsWhatItReadsFirst(t *testing.T) {
	for _, c := range []struct {
		what string
		b    []byte
		want api.Fault
	}{
		{"a long From, then no more", []byte{0x83, 0}, api.Malformed},
		{"half a From", []byte{0x83}, api.Truncated},
		{"half a To", []byte{3, 0x85}, api.Truncated},
		{"no To, From being far", num(math.MaxUint64), api.Truncated},
		{"a wrong Group, then no Has", []byte{3, 5, 2}, api.Malformed},
		{"no Has", []byte{3, 5, 1}, api.Truncated},
		{"a wrong Group, then a text too long", []byte{3, 5, 2, 1, 17}, api.Malformed},
		{"no length", []byte{3, 5, 1, 1}, api.Truncated},
		{"half a length", []byte{3, 5, 1, 1, 0x91}, api.Truncated},
		{"From above To, then no Has", []byte{5, 3, 1}, api.Truncated},
		{"From above To, then a wrong Has", []byte{5, 3, 1, 2}, api.Malformed},
		{"From above To, and bytes behind", []byte{5, 3, 1, 0, 0}, api.Malformed},
		{"From above To", []byte{5, 3, 1, 0}, api.Range},
	} {
		fails(t, c.what, c.b, 1, c.want)
	}
	fails(t, "a text that is not all there ahead of a wrong Bool", []byte{3, 5, 0, 1, 9, 2, 2}, 2, api.Truncated)
	fails(t, "a wrong Bool ahead of a text that is not all there", []byte{3, 5, 0, 2, 1, 1, 9}, 2, api.Malformed)
}

func TestReadKeepsNothing(t *testing.T) {
	b := []byte{3, 5, 1, 1, 2, 'a', 'b', 0, 1, 1, 'c'}
	want := queryOf(3, 5, part{true, true, "ab"}, part{false, true, "c"})
	q, _ := Read(b, 2)
	kept := slices.Clone(b)
	for i := range b {
		b[i] = 'z'
	}
	same(t, "Read, and its bytes changed", q, want)
	q.Filter, q.From = [api.Dims]string{"z"}, 9
	reads(t, "again", kept, 2, want, api.OK)
}

// --- P1302, P1303 held against bytes read another way

// walker reads bytes by the chapter's words, another way than the program, up to the first fault.
type walker struct {
	b     []byte
	fault api.Fault
}

func (w *walker) num() uint64 {
	if w.fault != api.OK {
		return 0
	}
	n, size := binary.Uvarint(w.b)
	switch {
	case size == 0 && len(w.b) < 10:
		w.fault = api.Truncated
	case size <= 0 || len(num(n)) != size:
		w.fault = api.Malformed
	default:
		w.b = w.b[size:]
		return n
	}
	return 0
}

func (w *walker) flag() bool {
	if w.fault == api.OK && len(w.b) > 0 && w.b[0] > 1 {
		w.fault = api.Malformed
	}
	return w.num() == 1
}

func (w *walker) text() string {
	n := w.num()
	switch {
	case n > 16:
		w.fault = api.Malformed
		return ""
	case n > uint64(len(w.b)):
		w.fault = api.Truncated
		return ""
	}
	s := string(w.b[:n])
	w.b = w.b[n:]
	return s
}

// readAs: what Read answers by the chapter's words, of dims from 1 to Dims.
func readAs(b []byte, dims int) (api.Query, api.Fault) {
	w := walker{b: b}
	from, to := w.num(), w.num()
	var q api.Query
	for i := range dims {
		group, has, filter := w.flag(), w.flag(), ""
		if has {
			filter = w.text()
		}
		part{group, has, filter}.put(&q, i)
	}
	switch {
	case w.fault != api.OK:
		return api.Query{}, w.fault
	case len(w.b) > 0:
		return api.Query{}, api.Malformed
	case from > to || to > 16777217:
		return api.Query{}, api.Range
	}
	q.From, q.To = int64(from), int64(to)
	return q, api.OK
}

// bothWays: Read is as the chapter says, and what is read is encoded as it was.
func bothWays(t *testing.T, b []byte, dims int) api.Fault {
	t.Helper()
	q, fault := Read(b, dims)
	want, wantFault := readAs(b, dims)
	if fault != wantFault || q != want {
		t.Fatalf("Read(% X, %d): %v, %d, not %v, %d", b, dims, q, fault, want, wantFault)
	}
	if fault == api.OK {
		encodes(t, "read and encoded", q, dims, b)
	}
	return fault
}

// Whatever few bytes of these there are, behind some that make each of a query's places come.
func TestReadOfAllBytesOfFewKinds(t *testing.T) {
	seen := map[api.Fault]int{}
	var try func(b []byte, dims, left int)
	try = func(b []byte, dims, left int) {
		seen[bothWays(t, b, dims)]++
		if left == 0 {
			return
		}
		for _, next := range []byte{0, 1, 2, 16, 17, 0x80, 0xFF} {
			try(append(b[:len(b):len(b)], next), dims, left-1)
		}
	}
	for dims := 1; dims <= 4; dims++ {
		try(nil, dims, 5)
		try([]byte{0, 1}, dims, 5)
		try(append([]byte{0, 1}, make([]byte, 2*dims-2)...), dims, 5)
		try([]byte{0, 0x80, 0x80, 0x80}, dims, 4)
		try([]byte{0x80, 0x80, 0x80, 8}, dims, 4)
		try(bytes.Repeat([]byte{0xFF}, 8), dims, 4)
		try(append([]byte{0}, bytes.Repeat([]byte{0xFF}, 8)...), dims, 4)
	}
	for _, fault := range []api.Fault{api.OK, api.Range, api.Truncated, api.Malformed} {
		if seen[fault] == 0 {
			t.Errorf("fault %d never came", fault)
		}
	}
}

// Bytes of queries, each byte changed into each other one, or taken out, or doubled.
func TestReadOfChangedBytes(t *testing.T) {
	for dims := 1; dims <= 4; dims++ {
		for seed := range uint64(40) {
			b := bytesOf(some(dims, seed), dims)
			for i := range b {
				bothWays(t, slices.Concat(b[:i], b[i+1:]), dims)
				bothWays(t, slices.Concat(b[:i+1], b[i:]), dims)
				for n := range 256 {
					changed := slices.Clone(b)
					changed[i] = byte(n)
					bothWays(t, changed, dims)
				}
			}
		}
	}
}

func TestReadOfBytesWithoutAPattern(t *testing.T) {
	throw := stir(13)
	for range 50000 {
		b := make([]byte, throw(30))
		for i := range b {
			b[i] = byte(throw(256) >> throw(9))
		}
		bothWays(t, b, 1+throw(4))
	}
}

// --- P1303

// Each choice of parts in each number of dimensions, at all ends of what is right.
func TestWhatIsEncodedIsReadAsItWas(t *testing.T) {
	hours := []int64{0, 1, 127, 128, api.MaxHour - 1, api.MaxHour, api.MaxHour + 1}
	for _, from := range hours {
		for _, to := range hours {
			if from > to {
				continue
			}
			each(from, to, rightParts("", strings.Repeat("\xff", 16)), func(q api.Query) {
				for dims := 1; dims <= 4; dims++ {
					b, fault := Encode(q, dims)
					same(t, "Encode's fault", fault, Check(q, dims))
					if fault == api.OK {
						reads(t, "what is encoded", b, dims, q, api.OK)
					}
				}
			})
		}
	}
}

func TestSomeQueriesAreReadAsTheyWere(t *testing.T) {
	for dims := 1; dims <= 4; dims++ {
		for seed := range uint64(2000) {
			q := some(dims, 7*seed+uint64(dims))
			encodes(t, "some query", q, dims, bytesOf(q, dims))
			reads(t, "some query", bytesOf(q, dims), dims, q, api.OK)
		}
	}
}

// What is cut is a query like any other, as bytes too.
func TestWhatIsCutIsReadAsItWas(t *testing.T) {
	for seed := range uint64(500) {
		q := some(3, seed)
		for _, cut := range []int64{least, -1, 0, q.From, (q.From + q.To) / 2, q.To, api.MaxHour, api.MaxHour + 1} {
			c := Cut(q, cut)
			b, fault := Encode(c, 3)
			same(t, "Encode's fault", fault, api.OK)
			reads(t, "what is cut", b, 3, c, api.OK)
		}
	}
}
