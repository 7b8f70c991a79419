package segio

import (
	"bytes"
	"encoding/binary"
	"hash/crc32"
	"math"
	"slices"
	"strconv"
	"strings"
	"testing"

	"ossuary/api"
	"ossuary/seg"
)

const (
	least    = math.MinInt64
	greatest = math.MaxInt64
)

// same fails the test where got is not what the chapter says.
func same[T comparable](t *testing.T, what string, got, want T) {
	t.Helper()
	if got != want {
		t.Errorf("%s: %v, not %v", what, got, want)
	}
}

// tells ends the test where a list is not what the chapter says: what follows would most often be wrong, too.
func tells[T comparable](t *testing.T, what string, got []T, want ...T) {
	t.Helper()
	if !slices.Equal(got, want) {
		t.Fatalf("%s: %v, not %v", what, short(got), short(want))
	}
}

// short: as much of a list as one reads.
func short[T any](l []T) []T {
	return l[:min(len(l), 100)]
}

func keyOf(hour int64, texts ...string) api.Key {
	k := api.Key{Hour: hour}
	copy(k.Dims[:], texts)
	return k
}

func rowOf(hour, value int64, texts ...string) api.Row {
	return api.Row{Key: keyOf(hour, texts...), Cell: api.Cell{Count: 1, Sum: value, Min: value, Max: value}}
}

// in: so many texts, all empty but the one at that dimension.
func in(d int, text string) []string {
	texts := make([]string, api.Dims)
	texts[d] = text
	return texts
}

// segOf: the segment of rows, each of which may be of any hour and have any texts.
func segOf(t *testing.T, rows ...api.Row) *seg.Seg {
	t.Helper()
	s, fault := seg.Rows(rows)
	if fault != api.OK {
		t.Fatalf("rows of a test: %d, %v", fault, short(rows))
	}
	return s
}

// has: s has just these rows.
func has(t *testing.T, what string, s *seg.Seg, rows []api.Row) {
	t.Helper()
	got := make([]api.Row, 0, s.Len())
	for i := range s.Len() {
		r, _ := s.At(i)
		got = append(got, r)
	}
	tells(t, what, got, rows...)
}

// noDims: numbers of dimensions that there can't be.
func noDims() []int {
	return []int{math.MinInt, math.MinInt + 1, math.MinInt32, -256, -5, -4, -2, -1, 0, 5, 6, 7, 8, 256, 257, 1 << 32, 1<<32 + 1, math.MaxInt - 1, math.MaxInt}
}

// stir hands out numbers from 0 to below, without a pattern, the same ones in each run.
func stir(seed uint64) func(below int) int {
	return func(below int) int {
		seed = seed*6364136223846793005 + 1442695040888963407
		return int(seed>>33) % below
	}
}

// ahead: whether a comes before b, by the words of the facts' chapter.
func ahead(a, b api.Key) bool {
	if a.Hour != b.Hour {
		return a.Hour < b.Hour
	}
	for i := range a.Dims {
		if a.Dims[i] != b.Dims[i] {
			return a.Dims[i] < b.Dims[i]
		}
	}
	return false
}

// inOrder: rows whose keys rise, each once, as they come of any.
func inOrder(rows []api.Row) []api.Row {
	l := slices.Clone(rows)
	slices.SortStableFunc(l, func(a, b api.Row) int {
		switch {
		case ahead(a.Key, b.Key):
			return -1
		case ahead(b.Key, a.Key):
			return 1
		}
		return 0
	})
	return slices.CompactFunc(l, func(a, b api.Row) bool { return a.Key == b.Key })
}

// some: at most n rows that fit so many dimensions, without a pattern, of few hours and texts.
func some(n, dims int, seed uint64) []api.Row {
	throw := stir(seed)
	hours := []int64{0, 1, 2, 127, 128, 300, 1 << 14, 1 << 21, api.MaxHour - 1, api.MaxHour}
	texts := []string{"", "a", "b", "ab", "\x00", "\xff", "é", "\x80\x00", strings.Repeat("m", 15), strings.Repeat("m", api.MaxText), strings.Repeat("\xff", api.MaxText)}
	numbers := []int64{0, 1, -1, 2, -2, 63, 64, -64, -65, 1 << 20, -1 << 40, api.MaxValue, -api.MaxValue, least, greatest}
	var l []api.Row
	for range n {
		r := rowOf(hours[throw(len(hours))], numbers[throw(len(numbers))])
		for d := range dims {
			r.Key.Dims[d] = texts[throw(len(texts))]
		}
		if throw(2) == 0 {
			a, b := numbers[throw(len(numbers))], numbers[throw(len(numbers))]
			r.Cell = api.Cell{Count: []int64{2, 3, 127, 128, 1 << 40, greatest}[throw(6)], Sum: numbers[throw(len(numbers))], Min: min(a, b), Max: max(a, b)}
		}
		l = append(l, r)
	}
	return inOrder(l)
}

// --- bytes by the chapter's words, made another way than by the program

func num(n uint64) []byte {
	return binary.AppendUvarint(nil, n)
}

func whole(n int64) []byte {
	return binary.AppendVarint(nil, n)
}

func text(s string) []byte {
	return append(num(uint64(len(s))), s...)
}

// texts: how many, and these.
func texts(l ...string) []byte {
	b := num(uint64(len(l)))
	for _, s := range l {
		b = append(b, text(s)...)
	}
	return b
}

func cell(count uint64, sum, least, greatest int64) []byte {
	return slices.Concat(num(count), whole(sum), whole(least), whole(greatest))
}

// long: a number in one byte more than it needs.
func long(n uint64) []byte {
	b := num(n)
	b[len(b)-1] |= 0x80
	return append(b, 0)
}

// framed: a frame of parts, one behind the other.
func framed(parts ...[]byte) []byte {
	p := slices.Concat(parts...)
	return slices.Concat(num(uint64(len(p))), p, binary.LittleEndian.AppendUint32(nil, crc32.ChecksumIEEE(p)))
}

// payloadOf: the payload of rows that fit.
func payloadOf(rows []api.Row, dims int) []byte {
	b := num(uint64(dims))
	places := make([]map[string]uint64, dims)
	for d := range dims {
		places[d] = map[string]uint64{}
		for _, r := range rows {
			places[d][r.Key.Dims[d]] = 0
		}
		var l []string
		for s := range places[d] {
			l = append(l, s)
		}
		slices.Sort(l)
		for i, s := range l {
			places[d][s] = uint64(i)
		}
		b = append(b, texts(l...)...)
	}
	b = append(b, num(uint64(len(rows)))...)
	for i, r := range rows {
		hour := r.Key.Hour
		if i > 0 {
			hour -= rows[i-1].Key.Hour
		}
		b = binary.AppendUvarint(b, uint64(hour))
		for d := range dims {
			b = binary.AppendUvarint(b, places[d][r.Key.Dims[d]])
		}
		b = binary.AppendUvarint(b, uint64(r.Cell.Count))
		for _, n := range []int64{r.Cell.Sum, r.Cell.Min, r.Cell.Max} {
			b = binary.AppendVarint(b, n)
		}
	}
	return b
}

// --- P1201 Fits

func TestFitsOfNoRow(t *testing.T) {
	empty, _ := seg.Of(nil)
	for _, s := range []*seg.Seg{nil, {}, empty, segOf(t)} {
		for _, dims := range noDims() {
			same(t, "Fits of no row, of dims "+strconv.Itoa(dims), Fits(s, dims), api.BadArg)
		}
		for dims := 1; dims <= api.Dims; dims++ {
			same(t, "Fits of no row, of dims "+strconv.Itoa(dims), Fits(s, dims), api.OK)
		}
	}
}

func TestFitsOfWrongDims(t *testing.T) { // told ahead of all that rows have
	for _, rows := range [][]api.Row{
		{rowOf(5, 1)}, {rowOf(5, 1, "a")}, {rowOf(5, 1, "a", "b", "c", "d")}, {rowOf(-1, 1)}, {rowOf(api.MaxHour+1, 1)},
		{rowOf(5, 1, strings.Repeat("x", 17))}, {rowOf(least, 1, strings.Repeat("x", 17)), rowOf(greatest, 1, strings.Repeat("x", 17))},
	} {
		for _, dims := range noDims() {
			same(t, "Fits of dims "+strconv.Itoa(dims), Fits(segOf(t, rows...), dims), api.BadArg)
		}
	}
}

func TestFitsOfEachHour(t *testing.T) {
	for _, hour := range []int64{least, least + 1, -1 << 32, -api.MaxHour - 1, -api.MaxHour, -2, -1, 0, 1, 2, 5, 1 << 20, api.MaxHour - 1, api.MaxHour, api.MaxHour + 1, api.MaxHour + 2, 1 << 32, 1<<32 + 5, greatest - 1, greatest} {
		want := api.OK
		if hour < 0 || hour > api.MaxHour {
			want = api.Range
		}
		for dims := 1; dims <= api.Dims; dims++ {
			same(t, "Fits of hour "+strconv.FormatInt(hour, 10), Fits(segOf(t, rowOf(hour, 1)), dims), want)
			same(t, "Fits of hour "+strconv.FormatInt(hour, 10), Fits(segOf(t, rowOf(hour, 1, "a")), dims), want)
			rows := inOrder([]api.Row{rowOf(hour, 1), rowOf(3, 1), rowOf(4, 1), rowOf(api.MaxHour-5, 1)})
			same(t, "Fits of hour "+strconv.FormatInt(hour, 10)+" among others", Fits(segOf(t, rows...), dims), want)
		}
	}
	same(t, "Fits of both ends", Fits(segOf(t, rowOf(0, 1), rowOf(api.MaxHour, 1)), 1), api.OK)
}

func TestFitsOfEachText(t *testing.T) {
	for dims := 1; dims <= api.Dims; dims++ {
		for d := range api.Dims {
			for _, s := range []string{"", "a", "\x00", "\xff", strings.Repeat("x", 15), strings.Repeat("x", 16), strings.Repeat("é", 8), strings.Repeat("x", 17), strings.Repeat("é", 9), strings.Repeat("x", 300)} {
				want := api.OK
				if len(s) > api.MaxText || s != "" && d >= dims {
					want = api.Malformed
				}
				what := "Fits of dims " + strconv.Itoa(dims) + ", of a text of " + strconv.Itoa(len(s)) + " in " + strconv.Itoa(d)
				wrong, right := rowOf(5, 1, in(d, s)...), rowOf(4, 1)
				same(t, what, Fits(segOf(t, wrong), dims), want)
				for place := range 4 { // of the first, a middle and the last row
					rows := []api.Row{right, right, right, right}
					rows[place] = wrong
					for i := range rows {
						rows[i].Key.Hour = int64(i)
					}
					same(t, what+", at "+strconv.Itoa(place), Fits(segOf(t, rows...), dims), want)
				}
			}
		}
		full := slices.Repeat([]string{strings.Repeat("\xff", api.MaxText)}, dims)
		same(t, "Fits of full texts in each dimension", Fits(segOf(t, rowOf(5, 1, full...)), dims), api.OK)
	}
}

// wrongRow: a row, and what is wrong with it for 2 dimensions.
type wrongRow struct {
	row   api.Row
	fault api.Fault
}

// wrongRows: in order, right ones among them.
func wrongRows() []wrongRow {
	tooLong := strings.Repeat("x", 17)
	return []wrongRow{
		{rowOf(least, 1), api.Range},
		{rowOf(least+1, 1, tooLong), api.Range},
		{rowOf(-1, 1, "", "", "c"), api.Range},
		{rowOf(-1, 1, "a"), api.Range},
		{rowOf(0, 1), api.OK},
		{rowOf(0, 1, "", "", "c"), api.Malformed},
		{rowOf(0, 1, "", tooLong), api.Malformed},
		{rowOf(3, 1, "a", "b"), api.OK},
		{rowOf(3, 1, tooLong), api.Malformed},
		{rowOf(5, 1, "a", "b", "", "d"), api.Malformed},
		{rowOf(api.MaxHour, 1, strings.Repeat("x", 16), strings.Repeat("x", 16)), api.OK},
		{rowOf(api.MaxHour, 1, strings.Repeat("x", 16), strings.Repeat("x", 17)), api.Malformed},
		{rowOf(api.MaxHour+1, 1), api.Range},
		{rowOf(api.MaxHour+1, 1, "", "", tooLong), api.Range},
		{rowOf(greatest, 1, tooLong), api.Range},
		{rowOf(greatest, 1, tooLong, "a"), api.Range},
	}
}

func TestFitsTellsTheFirstRowThatDoesNot(t *testing.T) {
	all := wrongRows()
	for choice := range 1 << len(all) {
		var rows []api.Row
		want := api.OK
		for i, w := range all {
			if choice>>i&1 == 0 {
				continue
			}
			rows = append(rows, w.row)
			if want == api.OK {
				want = w.fault
			}
		}
		if got := Fits(segOf(t, rows...), 2); got != want {
			t.Fatalf("Fits of %v: %d, not %d", rows, got, want)
		}
	}
}

func TestFitsOfAnyCell(t *testing.T) { // nothing of it is asked
	for _, c := range []api.Cell{{Count: 1, Sum: greatest, Min: greatest, Max: greatest}, {Count: 1, Sum: least, Min: least, Max: least}, {Count: greatest, Sum: least, Min: least, Max: greatest}} {
		same(t, "Fits", Fits(segOf(t, api.Row{Key: keyOf(5, "a"), Cell: c}), 1), api.OK)
	}
}

// --- P1201 Texts

func TestTextsOfEachDimension(t *testing.T) {
	rows := []api.Row{
		rowOf(-5, 1, "z", "", "k", "q"), rowOf(0, 1, "b", "x", "k", "q"), rowOf(0, 1, "b", "y", "", "q"),
		rowOf(1, 1, "a", "y", "k", "q"), rowOf(1, 1, "c", "x", "k", "q"), rowOf(greatest, 1, "\xff", "w", "k", "q"),
	}
	s := segOf(t, rows...)
	tells(t, "Texts of 0", Texts(s, 0), "a", "b", "c", "z", "\xff")
	tells(t, "Texts of 1", Texts(s, 1), "", "w", "x", "y")
	tells(t, "Texts of 2", Texts(s, 2), "", "k")
	tells(t, "Texts of 3", Texts(s, 3), "q")
	has(t, "the segment", s, rows)
}

func TestTextsOfNoDimension(t *testing.T) {
	s := segOf(t, rowOf(5, 1, "a", "b", "c", "d"))
	for _, dim := range []int{math.MinInt, math.MinInt + 1, -257, -256, -4, -3, -2, -1, 4, 5, 6, 256, 1 << 32, math.MaxInt - 1, math.MaxInt} {
		for _, s := range []*seg.Seg{nil, {}, s} {
			tells(t, "Texts of "+strconv.Itoa(dim), Texts(s, dim))
		}
	}
}

func TestTextsOfNoRow(t *testing.T) {
	empty, _ := seg.Of(nil)
	for _, s := range []*seg.Seg{nil, {}, empty} {
		for d := range api.Dims {
			tells(t, "Texts of no row", Texts(s, d))
		}
	}
}

func TestTextsOfTheEmptyText(t *testing.T) {
	for d := range api.Dims {
		tells(t, "Texts of a row without texts", Texts(segOf(t, rowOf(5, 1)), d), "")
		tells(t, "Texts of two", Texts(segOf(t, rowOf(5, 1), rowOf(6, 1)), d), "")
		tells(t, "Texts of one with and one without", Texts(segOf(t, rowOf(5, 1, in(d, "a")...), rowOf(6, 1)), d), "", "a")
	}
}

func TestTextsRise(t *testing.T) { // by their bytes
	order := []string{"", "\x00", "\x00\x00", "\x00a", "A", "Z", "a", "a\x00", "aa", "ab", "b", "z", "é", "\x80", "\xc3", "\xff", "\xff\xff", strings.Repeat("\xff", 17)}
	slices.Sort(order)
	for d := range api.Dims {
		for turn := range order {
			var rows []api.Row
			for i := range 3 * len(order) {
				rows = append(rows, rowOf(int64(i), 1, in(d, order[(7*i+turn)%len(order)])...))
			}
			tells(t, "Texts", Texts(segOf(t, rows...), d), order...)
			var few []string
			for _, r := range rows[:5] {
				few = append(few, r.Key.Dims[d])
			}
			slices.Sort(few)
			tells(t, "Texts of five rows", Texts(segOf(t, rows[:5]...), d), few...)
		}
	}
}

func TestTextsOfRowsThatDoNotFit(t *testing.T) { // nothing of Texts asks that they do
	long := strings.Repeat("x", 1000)
	s := segOf(t, rowOf(least, 1, "b"), rowOf(-1, 1, long), rowOf(greatest, 1, "a"))
	tells(t, "Texts", Texts(s, 0), "a", "b", long)
	tells(t, "Texts of a row of the greatest hour", Texts(segOf(t, rowOf(greatest, 1, "", "g")), 1), "g")
}

func TestTextsAreAList(t *testing.T) { // of the caller's own
	rows := []api.Row{rowOf(5, 1, "a"), rowOf(6, 1, "b")}
	s := segOf(t, rows...)
	l := Texts(s, 0)
	l[0], l[1] = "x", "y"
	_ = append(l[:0], "p", "q", "r")
	tells(t, "Texts again", Texts(s, 0), "a", "b")
	has(t, "the segment", s, rows)
}

func TestTextsOfManyRows(t *testing.T) {
	const many = 100000
	var rows []api.Row
	for i := range many {
		rows = append(rows, rowOf(int64(i), 1, strconv.Itoa(i%7), strconv.Itoa(i), "one"))
	}
	s := segOf(t, rows...)
	tells(t, "Texts of 0", Texts(s, 0), "0", "1", "2", "3", "4", "5", "6")
	var all []string
	for i := range many {
		all = append(all, strconv.Itoa(i))
	}
	slices.Sort(all)
	tells(t, "Texts of 1", Texts(s, 1), all...)
	tells(t, "Texts of 2", Texts(s, 2), "one")
	tells(t, "Texts of 3", Texts(s, 3), "")
}

// sameBytes ends the test where got is not what the chapter says.
func sameBytes(t *testing.T, what string, got, want []byte) {
	t.Helper()
	if !bytes.Equal(got, want) {
		t.Fatalf("%s: % X, not % X", what, short(got), short(want))
	}
}
