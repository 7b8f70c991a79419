package pack

import (
	"bytes"
	"math"
	"strings"
	"testing"

	"ossuary/api"
)

// same fails the test where got is not what the chapter says.
func same[T comparable](t *testing.T, what string, got, want T) {
	t.Helper()
	if got != want {
		t.Errorf("%s: %v, not %v", what, got, want)
	}
}

// sameBytes: likewise, of bytes.
func sameBytes(t *testing.T, what string, got, want []byte) {
	t.Helper()
	if !bytes.Equal(got, want) {
		t.Errorf("%s: % X, not % X", what, got, want)
	}
}

// bytesOf: what a new writer has behind some calls.
func bytesOf(put func(w *Writer)) []byte {
	var w Writer
	put(&w)
	return w.Bytes()
}

// num is a number's bytes as the chapter's words have them, reckoned another way than by Writer.
func num(n uint64) []byte {
	b := []byte{byte(n % 128)}
	for n /= 128; n > 0; n /= 128 {
		b[len(b)-1] += 128
		b = append(b, byte(n%128))
	}
	return b
}

// edges: numbers at which the count of bytes changes, and those beside them.
func edges() []uint64 {
	l := []uint64{0, 1, 2, 300, math.MaxUint64, math.MaxUint64 - 1, math.MaxInt64}
	for i := 1; i < 64; i++ {
		p := uint64(1) << i
		l = append(l, p-1, p, p+1)
	}
	return l
}

// ints: the edges as numbers with a sign, both ways.
func ints() []int64 {
	l := []int64{math.MinInt64, math.MinInt64 + 1, math.MaxInt64, -64, -65, 63, 64}
	for _, n := range edges() {
		l = append(l, int64(n), -int64(n))
	}
	return l
}

// ten: a number of ten bytes, nine of them with nothing but their highest bit, or with all bits.
func ten(each, last byte) []byte {
	return append(bytes.Repeat([]byte{each}, 9), last)
}

// --- P101

func TestWriterPutsBytes(t *testing.T) {
	for _, c := range []struct {
		what string
		put  func(w *Writer)
		want []byte
	}{
		{"nothing", func(w *Writer) {}, nil},
		{"Num 0", func(w *Writer) { w.Num(0) }, []byte{0}},
		{"Num 127", func(w *Writer) { w.Num(127) }, []byte{0x7F}},
		{"Num 128", func(w *Writer) { w.Num(128) }, []byte{0x80, 1}},
		{"Num 300", func(w *Writer) { w.Num(300) }, []byte{0xAC, 2}},
		{"Num 16383", func(w *Writer) { w.Num(16383) }, []byte{0xFF, 0x7F}},
		{"Num 16384", func(w *Writer) { w.Num(16384) }, []byte{0x80, 0x80, 1}},
		{"Num 2^63", func(w *Writer) { w.Num(1 << 63) }, ten(0x80, 1)},
		{"Num 2^64 - 1", func(w *Writer) { w.Num(math.MaxUint64) }, ten(0xFF, 1)},
		{"Int 0", func(w *Writer) { w.Int(0) }, []byte{0}},
		{"Int -1", func(w *Writer) { w.Int(-1) }, []byte{1}},
		{"Int 1", func(w *Writer) { w.Int(1) }, []byte{2}},
		{"Int -2", func(w *Writer) { w.Int(-2) }, []byte{3}},
		{"Int 64", func(w *Writer) { w.Int(64) }, []byte{0x80, 1}},
		{"Int greatest", func(w *Writer) { w.Int(math.MaxInt64) }, append([]byte{0xFE}, ten(0xFF, 1)[1:]...)},
		{"Int least", func(w *Writer) { w.Int(math.MinInt64) }, ten(0xFF, 1)},
		{"Text ab", func(w *Writer) { w.Text("ab") }, []byte{2, 'a', 'b'}},
		{"Text none", func(w *Writer) { w.Text("") }, []byte{0}},
		{"Text no runes", func(w *Writer) { w.Text("\xff\x00") }, []byte{2, 0xFF, 0}},
		{"Text of 3 bytes, 1 rune", func(w *Writer) { w.Text("€") }, []byte{3, 0xE2, 0x82, 0xAC}},
		{"Text of 200", func(w *Writer) { w.Text(strings.Repeat("x", 200)) }, append([]byte{0xC8, 1}, bytes.Repeat([]byte{'x'}, 200)...)},
		{"Bool true", func(w *Writer) { w.Bool(true) }, []byte{1}},
		{"Bool false", func(w *Writer) { w.Bool(false) }, []byte{0}},
		{"all behind one another", func(w *Writer) { w.Num(5).Int(-3).Text("z").Bool(true).Num(0) }, []byte{5, 5, 1, 'z', 1, 0}},
	} {
		var w Writer
		c.put(&w)
		sameBytes(t, c.what, w.Bytes(), c.want)
		same(t, c.what+": Len", w.Len(), len(c.want))
	}
}

func TestWriterPutsNumbersAsShortAsCanBe(t *testing.T) {
	for _, n := range edges() {
		sameBytes(t, "Num", bytesOf(func(w *Writer) { w.Num(n) }), num(n))
	}
	for _, n := range ints() {
		turned := 2 * uint64(n)
		if n < 0 {
			turned = 2*uint64(-(n+1)) + 1
		}
		sameBytes(t, "Int", bytesOf(func(w *Writer) { w.Int(n) }), num(turned))
	}
}

func TestWriterAnswersItself(t *testing.T) {
	var w Writer
	for i, got := range []*Writer{w.Num(1), w.Int(1), w.Text("a"), w.Bool(true)} {
		if got != &w {
			t.Errorf("call %d answers another writer", i)
		}
	}
}

func TestWriterHandsOutCopies(t *testing.T) {
	var w Writer
	w.Text("abc")
	first := w.Bytes()
	first[1] = 'x'
	_ = append(first[:1:cap(first)], "xxxxxxxx"...)
	sameBytes(t, "Bytes", w.Bytes(), []byte{3, 'a', 'b', 'c'})
	second := w.Bytes()
	w.Num(7)
	_ = append(second, 9)
	sameBytes(t, "Bytes behind a put", w.Bytes(), []byte{3, 'a', 'b', 'c', 7})
}

func TestNilWriter(t *testing.T) {
	var w *Writer
	for i, got := range []*Writer{w.Num(1), w.Int(-1), w.Text("a"), w.Text(""), w.Bool(true), w.Bool(false)} {
		if got != nil {
			t.Errorf("call %d of a nil writer answers a writer", i)
		}
	}
	same(t, "Bytes of nil", len(w.Bytes()), 0)
	same(t, "Len of nil", w.Len(), 0)
}

// --- P102

// call: one of a reader's calls, and whether it answered what it does behind a fault.
type call struct {
	what string
	none func(r *Reader) bool
}

// calls: all that read; most is what Text and Count get.
func calls(most int) []call {
	return []call{
		{"Num", func(r *Reader) bool { return r.Num() == 0 }},
		{"Int", func(r *Reader) bool { return r.Int() == 0 }},
		{"Text", func(r *Reader) bool { return r.Text(most) == "" }},
		{"Bool", func(r *Reader) bool { return !r.Bool() }},
		{"Count", func(r *Reader) bool { return r.Count(most) == 0 }},
	}
}

func TestReaderReadsOneThingBehindTheOther(t *testing.T) {
	r := NewReader([]byte{0xAC, 2, 1, 2, 'a', 'b', 1, 0, 9, 7})
	same(t, "Left at first", r.Left(), 10)
	same(t, "Num", r.Num(), uint64(300))
	same(t, "Left behind Num", r.Left(), 8)
	same(t, "Int", r.Int(), int64(-1))
	same(t, "Left behind Int", r.Left(), 7)
	same(t, "Text", r.Text(2), "ab")
	same(t, "Left behind Text", r.Left(), 4)
	same(t, "Bool", r.Bool(), true)
	same(t, "Bool", r.Bool(), false)
	same(t, "Left behind Bools", r.Left(), 2)
	same(t, "Count", r.Count(9), 9)
	same(t, "Left behind Count", r.Left(), 1)
	same(t, "Fault", r.Fault(), api.OK)
}

func TestReaderOfNum(t *testing.T) {
	for _, c := range []struct {
		what  string
		bytes []byte
		n     uint64
		fault api.Fault
	}{
		{"no byte", nil, 0, api.Truncated},
		{"0", []byte{0}, 0, api.OK},
		{"127", []byte{0x7F}, 127, api.OK},
		{"begin of a number", []byte{0x80}, 0, api.Truncated},
		{"nine of ten bytes", ten(0xFF, 1)[:9], 0, api.Truncated},
		{"2^64 - 1", ten(0xFF, 1), math.MaxUint64, api.OK},
		{"2^63", ten(0x80, 1), 1 << 63, api.OK},
		{"2^63 - 1", append(bytes.Repeat([]byte{0xFF}, 8), 0x7F), math.MaxInt64, api.OK},
		{"2^64", ten(0x80, 2), 0, api.Malformed},
		{"all bits of ten bytes", ten(0xFF, 0x7F), 0, api.Malformed},
		{"tenth byte with but a high bit", ten(0x80, 0x40), 0, api.Malformed},
		{"tenth byte 0", ten(0x80, 0), 0, api.Malformed},
		{"tenth byte 0 behind ones", ten(0xFF, 0), 0, api.Malformed},
		{"goes on behind the tenth, to no byte", ten(0x80, 0x80), 0, api.Malformed},
		{"goes on behind the tenth, to a byte", append(ten(0xFF, 0x81), 0), 0, api.Malformed},
		{"goes on behind the tenth for long", bytes.Repeat([]byte{0x80}, 40), 0, api.Malformed},
		{"0 in two bytes", []byte{0x80, 0}, 0, api.Malformed},
		{"1 in two bytes", []byte{0x81, 0}, 0, api.Malformed},
		{"127 in three bytes", []byte{0xFF, 0x80, 0}, 0, api.Malformed},
		{"0 within", []byte{0x80, 0x80, 1}, 1 << 14, api.OK},
	} {
		r := NewReader(c.bytes)
		same(t, c.what, r.Num(), c.n)
		same(t, c.what+": Fault", r.Fault(), c.fault)
		i := NewReader(c.bytes)
		same(t, c.what+": Int's Fault", (i.Int() == 0) == (c.n == 0) && i.Fault() == c.fault, true)
		k := NewReader(c.bytes)
		same(t, c.what+": Count's Fault", k.Count(math.MaxInt) == 0, c.n == 0 || c.n > math.MaxInt)
	}
}

func TestReaderOfInt(t *testing.T) {
	for _, c := range []struct {
		bytes []byte
		n     int64
	}{
		{[]byte{0}, 0}, {[]byte{1}, -1}, {[]byte{2}, 1}, {[]byte{3}, -2}, {[]byte{4}, 2},
		{ten(0xFF, 1), math.MinInt64},
		{append([]byte{0xFE}, ten(0xFF, 1)[1:]...), math.MaxInt64},
	} {
		r := NewReader(c.bytes)
		same(t, "Int", r.Int(), c.n)
		same(t, "Int: Fault", r.Fault(), api.OK)
		same(t, "Int: Left", r.Left(), 0)
	}
}

func TestReaderOfText(t *testing.T) {
	long := bytesOf(func(w *Writer) { w.Text(strings.Repeat("x", 200)) })
	huge := bytesOf(func(w *Writer) { w.Num(math.MaxUint64) })
	for _, c := range []struct {
		what  string
		bytes []byte
		most  int
		text  string
		fault api.Fault
	}{
		{"as long as it may be", []byte{2, 'a', 'b'}, 2, "ab", api.OK},
		{"longer by one", []byte{2, 'a', 'b'}, 1, "", api.Malformed},
		{"longer, and not all there", []byte{9, 'a', 'b'}, 8, "", api.Malformed},
		{"longer, and nothing there", []byte{1}, 0, "", api.Malformed},
		{"not all there", []byte{3, 'a', 'b'}, 3, "", api.Truncated},
		{"nothing there", []byte{1}, 1, "", api.Truncated},
		{"no length", nil, 5, "", api.Truncated},
		{"no length, most 0", nil, 0, "", api.Truncated},
		{"half a length", []byte{0x85}, 0, "", api.Truncated},
		{"length not as short as can be", []byte{0x80, 0}, 5, "", api.Malformed},
		{"none, most 0", []byte{0}, 0, "", api.OK},
		{"none, most below 0", []byte{0}, -1, "", api.OK},
		{"none, most far below 0", []byte{0}, math.MinInt, "", api.OK},
		{"one byte, most below 0", []byte{1, 'a'}, -1, "", api.Malformed},
		{"length of two bytes", long, 200, strings.Repeat("x", 200), api.OK},
		{"length of two bytes, longer by one", long, 199, "", api.Malformed},
		{"length that is no int", huge, math.MaxInt, "", api.Malformed},
		{"length that is the greatest int", num(math.MaxInt), math.MaxInt, "", api.Truncated},
		{"no runes", []byte{2, 0xFF, 0}, 2, "\xff\x00", api.OK},
	} {
		r := NewReader(c.bytes)
		same(t, c.what, r.Text(c.most), c.text)
		same(t, c.what+": Fault", r.Fault(), c.fault)
	}
}

func TestReaderOfBool(t *testing.T) {
	for b := range 256 {
		r := NewReader([]byte{byte(b), 1})
		same(t, "Bool", r.Bool(), b == 1)
		want := api.OK
		if b > 1 {
			want = api.Malformed
		}
		same(t, "Bool: Fault", r.Fault(), want)
	}
	r := NewReader(nil)
	same(t, "Bool of no byte", r.Bool(), false)
	same(t, "Bool of no byte: Fault", r.Fault(), api.Truncated)
}

func TestReaderOfCount(t *testing.T) {
	for _, c := range []struct {
		what  string
		bytes []byte
		most  int
		n     int
		fault api.Fault
	}{
		{"as much as it may be", []byte{50}, 50, 50, api.OK},
		{"one more", []byte{51}, 50, 0, api.Malformed},
		{"0 of 0", []byte{0}, 0, 0, api.OK},
		{"1 of 0", []byte{1}, 0, 0, api.Malformed},
		{"1, most below 0", []byte{1}, -1, 0, api.Malformed},
		{"0, most below 0, which counts as 0", []byte{0}, -1, 0, api.OK},
		{"the greatest int", num(math.MaxInt), math.MaxInt, math.MaxInt, api.OK},
		{"no int", num(math.MaxInt + 1), math.MaxInt, 0, api.Malformed},
		{"2^64 - 1, most below 0", num(math.MaxUint64), -1, 0, api.Malformed},
		{"no byte", nil, 5, 0, api.Truncated},
		{"half a number above most", []byte{0xFF}, 5, 0, api.Truncated},
		{"not as short as can be", []byte{0x81, 0}, 5, 0, api.Malformed},
	} {
		r := NewReader(c.bytes)
		same(t, c.what, r.Count(c.most), c.n)
		same(t, c.what+": Fault", r.Fault(), c.fault)
	}
}

func TestReaderReadsNothingBehindAFault(t *testing.T) {
	for _, c := range []struct {
		what  string
		bytes []byte
		first func(r *Reader)
		fault api.Fault
	}{
		{"Num", []byte{1, 0x80, 0, 1, 1}, func(r *Reader) { r.Num() }, api.Malformed},
		{"Int", []byte{1, 0x80, 0, 1, 1}, func(r *Reader) { r.Int() }, api.Malformed},
		{"Text above most", []byte{1, 2, 1, 1, 1}, func(r *Reader) { r.Text(1) }, api.Malformed},
		{"Text cut off", []byte{1, 5, 1, 1, 1}, func(r *Reader) { r.Text(9) }, api.Truncated},
		{"Bool", []byte{1, 2, 1, 1, 1}, func(r *Reader) { r.Bool() }, api.Malformed},
		{"Count", []byte{1, 2, 1, 1, 1}, func(r *Reader) { r.Count(1) }, api.Malformed},
		{"Num cut off", []byte{1, 0x81, 0x81}, func(r *Reader) { r.Num() }, api.Truncated},
	} {
		for _, then := range calls(9) {
			r := NewReader(c.bytes)
			r.Num()
			c.first(r)
			same(t, c.what+": Fault", r.Fault(), c.fault)
			same(t, c.what+": Left, as ahead of the fault", r.Left(), len(c.bytes)-1)
			for range 3 {
				same(t, c.what+", then "+then.what+": nothing", then.none(r), true)
				same(t, c.what+", then "+then.what+": first Fault", r.Fault(), c.fault)
				same(t, c.what+", then "+then.what+": Left", r.Left(), len(c.bytes)-1)
			}
		}
	}
}

func TestReaderKeepsItsOwnBytes(t *testing.T) {
	b := append(make([]byte, 0, 8), 2, 'a', 'b', 7)
	r := NewReader(b)
	b[0], b[1] = 1, 'x'
	same(t, "Text", r.Text(2), "ab")
	b[3] = 9
	same(t, "Num", r.Num(), uint64(7))
	sameBytes(t, "what was handed in", b[:8], []byte{1, 'x', 'b', 9, 0, 0, 0, 0})
}

func TestReaderOfNoBytes(t *testing.T) {
	for _, then := range calls(5) {
		for _, r := range []*Reader{NewReader(nil), NewReader([]byte{}), {}} {
			same(t, then.what+": no Fault at first", r.Fault(), api.OK)
			same(t, then.what+": Left", r.Left(), 0)
			same(t, then.what+" of no bytes", then.none(r), true)
			same(t, then.what+": Fault", r.Fault(), api.Truncated)
		}
	}
}

func TestNilReader(t *testing.T) {
	var r *Reader
	same(t, "Fault of nil at first", r.Fault(), api.Truncated)
	for _, most := range []int{math.MinInt, -1, 0, 5, math.MaxInt} {
		for _, then := range calls(most) {
			same(t, then.what+" of nil", then.none(r), true)
			same(t, then.what+" of nil: Fault", r.Fault(), api.Truncated)
			same(t, then.what+" of nil: Left", r.Left(), 0)
		}
	}
}

// --- P103

func TestNumbersAreReadAsTheyWere(t *testing.T) {
	for _, n := range edges() {
		b := bytesOf(func(w *Writer) { w.Num(n) })
		r := NewReader(b)
		same(t, "Num", r.Num(), n)
		same(t, "Num: Fault", r.Fault(), api.OK)
		same(t, "Num: Left", r.Left(), 0)
		cut(t, b, calls(math.MaxInt)[0])
	}
	for _, n := range ints() {
		b := bytesOf(func(w *Writer) { w.Int(n) })
		r := NewReader(b)
		same(t, "Int", r.Int(), n)
		same(t, "Int: Fault", r.Fault(), api.OK)
		same(t, "Int: Left", r.Left(), 0)
		cut(t, b, calls(math.MaxInt)[1])
	}
}

func TestTextsAreReadAsTheyWere(t *testing.T) {
	for _, n := range []int{0, 1, 2, 16, 127, 128, 129, 300} {
		s := strings.Repeat("\xe2x", n)[:n]
		b := bytesOf(func(w *Writer) { w.Text(s) })
		r := NewReader(b)
		same(t, "Text", r.Text(n), s)
		same(t, "Text: Fault", r.Fault(), api.OK)
		same(t, "Text: Left", r.Left(), 0)
		cut(t, b, calls(n)[2])
	}
	for _, v := range []bool{false, true} {
		b := bytesOf(func(w *Writer) { w.Bool(v) })
		r := NewReader(b)
		same(t, "Bool", r.Bool(), v)
		same(t, "Bool: Left", r.Left(), 0)
		cut(t, b, calls(0)[3])
	}
}

// cut: of fewer bytes, whichever are left out at the end, nothing is read.
func cut(t *testing.T, b []byte, read call) {
	t.Helper()
	for n := range b {
		r := NewReader(b[:n])
		same(t, read.what+" cut off: nothing", read.none(r), true)
		same(t, read.what+" cut off: Fault", r.Fault(), api.Truncated)
		same(t, read.what+" cut off: Left", r.Left(), n)
	}
}

func TestMixesAreReadAsTheyWere(t *testing.T) {
	var w Writer
	for i, n := range edges() {
		w.Num(n).Int(-int64(n)).Text(strings.Repeat("y", i)).Bool(i%2 == 0)
	}
	r := NewReader(w.Bytes())
	for i, n := range edges() {
		same(t, "Num", r.Num(), n)
		same(t, "Int", r.Int(), -int64(n))
		same(t, "Text", r.Text(i), strings.Repeat("y", i))
		same(t, "Bool", r.Bool(), i%2 == 0)
	}
	same(t, "Fault", r.Fault(), api.OK)
	same(t, "Left", r.Left(), 0)
}

// Whatever bytes of these there are: what is read as a number is written so again, so that no number has two texts of bytes.
func TestNoNumberIsReadFromOtherBytesThanItsOwn(t *testing.T) {
	var try func(b []byte, left int)
	try = func(b []byte, left int) {
		r := NewReader(b)
		n := r.Num()
		if r.Fault() == api.OK {
			sameBytes(t, "read and written", num(n), b[:len(b)-r.Left()])
		} else {
			same(t, "with a fault", n, 0)
		}
		if left == 0 {
			return
		}
		for _, next := range []byte{0, 1, 2, 0x7F, 0x80, 0x81, 0xFF} {
			try(append(b[:len(b):len(b)], next), left-1)
		}
	}
	try(nil, 4)
	try(bytes.Repeat([]byte{0x80}, 7), 4)
	try(bytes.Repeat([]byte{0xFF}, 7), 4)
}
