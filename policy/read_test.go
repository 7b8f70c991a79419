package policy

import (
	"bytes"
	"encoding/binary"
	"math"
	"slices"
	"strconv"
	"testing"

	"ossuary/api"
	"ossuary/pack"
)

// --- P1801: Read

// reads: what Read answers of bytes, and how many of them it leaves.
func reads(t *testing.T, what string, b []byte, want api.Policy, fault api.Fault, left int) {
	t.Helper()
	r := pack.NewReader(b)
	p, f := Read(r)
	same(t, what+": Read's fault", f, fault)
	same(t, what, p, want)
	same(t, what+": Left", r.Left(), left)
	pass := fault
	if fault == api.Range {
		pass = api.OK // the bytes have no fault, only the numbers
	}
	same(t, what+": the reader's fault", r.Fault(), pass)
}

// refuses: Read of bytes answers a fault, and no policy.
func refuses(t *testing.T, what string, b []byte, fault api.Fault) {
	t.Helper()
	p, f := Read(pack.NewReader(b))
	same(t, what+": Read's fault", f, fault)
	same(t, what, p, api.Policy{})
}

// plainWith: the bytes of the plain policy, but of one field others.
func plainWith(at int, field []byte) []byte {
	var b []byte
	for i, n := range numbers(Plain()) {
		if i == at {
			b = append(b, field...)
		} else {
			b = append(b, num(uint64(n))...)
		}
	}
	return b
}

// long: a Num in one byte more than it needs.
func long(n uint64) []byte {
	b := num(n)
	b[len(b)-1] |= 0x80
	return append(b, 0)
}

// noNums: bytes with which no Num begins, whatever is behind them.
func noNums() [][]byte {
	ones := bytes.Repeat([]byte{0xFF}, 9)
	return [][]byte{
		long(0), long(1), long(16), long(127), long(128), long(4000), long(1 << 62), {0x80, 0x80, 0},
		append(slices.Clone(ones), 2), append(slices.Clone(ones), 0), append(slices.Clone(ones), 0x7F), append(slices.Clone(ones), 0x81, 0), bytes.Repeat([]byte{0x80}, 12),
	}
}

// cutNums: beginnings of Nums.
func cutNums() [][]byte {
	return [][]byte{{}, {0x80}, {0xFF, 0xFF}, {0xD0}, bytes.Repeat([]byte{0xFF}, 9)}
}

// farNums: numbers above 2^62, all of them right bytes; among them such as are right once they are cut to fewer bits.
func farNums() []uint64 {
	return []uint64{1<<62 + 1, 1<<62 + 2, 1<<62 + 100, 1<<63 - 1, 1 << 63, 1<<63 + 1, 1<<63 + 16, 1<<63 + 100, 1<<63 + 4000, 1<<63 + 1<<62, math.MaxUint64 - 1, math.MaxUint64}
}

func TestReadOfPlain(t *testing.T) {
	b := []byte{0xD0, 0x0F, 1, 2, 24, 48, 2, 60, 16, 0xA0, 0x1F}
	reads(t, "Plain", b, Plain(), api.OK, 0)
	reads(t, "Plain, and more", append(b, 9, 0xFF, 0xFF), Plain(), api.OK, 3)
	reads(t, "rising fields", []byte{101, 102, 103, 104, 105, 106, 107, 8, 109}, policyOf([]int64{101, 102, 103, 104, 105, 106, 107, 8, 109}), api.OK, 0)
}

func TestReadOfNil(t *testing.T) {
	p, fault := Read(nil)
	same(t, "nil: Read's fault", fault, api.BadArg)
	same(t, "nil", p, api.Policy{})
}

func TestReadOfNoBytes(t *testing.T) {
	for _, r := range []*pack.Reader{pack.NewReader(nil), pack.NewReader([]byte{}), {}} {
		for range 3 {
			p, fault := Read(r)
			same(t, "no bytes: Read's fault", fault, api.Truncated)
			same(t, "no bytes", p, api.Policy{})
		}
	}
}

// A reader that has a fault reads nothing, also where a right policy, or a wrong one, stands next.
func TestReadOfAReaderThatHasAFault(t *testing.T) {
	for _, next := range [][]byte{bytesOf(Plain()), bytesOf(policyOf(highs())), plainWith(0, num(0)), plainWith(3, num(1<<62+1)), {}} {
		for _, c := range []struct {
			what  string
			ahead []byte
			first func(r *pack.Reader)
			fault api.Fault
		}{
			{"a Bool of 2", []byte{2}, func(r *pack.Reader) { r.Bool() }, api.Malformed},
			{"a Num that is too long", []byte{0x80, 0}, func(r *pack.Reader) { r.Num() }, api.Malformed},
			{"a Count above most", []byte{5}, func(r *pack.Reader) { r.Count(4) }, api.Malformed},
			{"a Text that is cut", []byte{0x80, 1}, func(r *pack.Reader) { r.Text(128) }, api.Truncated},
		} {
			r := pack.NewReader(append(c.ahead, next...))
			c.first(r)
			left := r.Left()
			for range 2 {
				p, fault := Read(r)
				same(t, c.what+": Read's fault", fault, c.fault)
				same(t, c.what, p, api.Policy{})
				same(t, c.what+": Left", r.Left(), left)
				same(t, c.what+": the reader's fault", r.Fault(), c.fault)
			}
		}
	}
}

func TestReadOfEachBeginning(t *testing.T) {
	for _, p := range some() {
		b := bytesOf(p)
		for end := range b {
			refuses(t, "a beginning", b[:end], api.Truncated)
		}
		reads(t, "all", b, p, api.OK, 0)
	}
}

func TestReadOfEachFieldAtEachEdge(t *testing.T) {
	for at, name := range names() {
		for _, n := range edges() {
			b := append(plainWith(at, num(uint64(n))), 9)
			want := with(Plain(), at, n)
			if n < lows()[at] || n > highs()[at] {
				reads(t, name+" of "+strconv.FormatInt(n, 10), b, api.Policy{}, api.Range, 1)
			} else {
				reads(t, name+" of "+strconv.FormatInt(n, 10), b, want, api.OK, 1)
			}
		}
	}
}

// What no right policy has is Range, whether the number is one of an int64, or of none.
func TestReadOfFarNums(t *testing.T) {
	for at, name := range names() {
		for _, n := range append(farNums(), 1<<62, 1<<62-1) {
			b := plainWith(at, num(n))
			reads(t, name+" far", b, api.Policy{}, api.Range, 0)
			reads(t, name+" far, and more", append(b, 9, 0x80), api.Policy{}, api.Range, 2)
			for end := range b {
				refuses(t, name+" far, a beginning", b[:end], api.Truncated)
			}
		}
	}
	for _, n := range append(farNums(), 0, 1<<62) {
		reads(t, "all fields far", bytes.Repeat(num(n), 10), api.Policy{}, api.Range, len(num(n)))
	}
}

// A Num that is none stays in the reader, with all that is behind it.
func TestReadOfEachNumThatIsNone(t *testing.T) {
	for at, name := range names() {
		for _, wrong := range noNums() {
			b := plainWith(at, wrong)
			reads(t, name+" is none", b, api.Policy{}, api.Malformed, len(b)-len(plainTo(at)))
			b = append(plainTo(at), wrong...)
			reads(t, name+" is none, at the end", b, api.Policy{}, api.Malformed, len(wrong))
		}
		for _, cut := range cutNums() {
			reads(t, name+" is cut", append(plainTo(at), cut...), api.Policy{}, api.Truncated, len(cut))
		}
	}
}

// pack's fault is told ahead of Range, wherever it stands; of two of pack's the first one.
func TestReadTellsTheFirstOfTwoFaults(t *testing.T) {
	for _, wrong := range [][]byte{num(1<<62 + 1), num(math.MaxUint64), num(0), num(1<<20 + 1), num(1 << 62)} {
		rest := slices.Concat(wrong, plainTo(8)[2:]) // Retain has two bytes
		refuses(t, "a number out of its range, then a cut one", append(rest, 0x80), api.Truncated)
		refuses(t, "a number out of its range, then none", rest, api.Truncated)
		refuses(t, "a number out of its range, then one that is no Num", append(rest, 0x80, 0), api.Malformed)
		for at := range names() {
			refuses(t, "numbers out of their ranges, then a cut one", append(bytes.Repeat(wrong, at), 0x80), api.Truncated)
			refuses(t, "numbers out of their ranges, then none", bytes.Repeat(wrong, at), api.Truncated)
			refuses(t, "numbers out of their ranges, then one that is no Num", append(bytes.Repeat(wrong, at), 0x80, 0), api.Malformed)
			refuses(t, "no Num, then numbers out of their ranges", slices.Concat(plainTo(at), []byte{0x80, 0}, bytes.Repeat(wrong, 8-at)), api.Malformed)
			refuses(t, "no Num, then nothing", append(plainTo(at), 0x80, 0), api.Malformed)
			refuses(t, "no Num, then a cut one", append(plainTo(at), 0x80, 0, 0x80), api.Malformed)
		}
	}
}

// plainTo: the plain policy's first fields.
func plainTo(n int) []byte {
	var b []byte
	for _, field := range numbers(Plain())[:n] {
		b = append(b, num(uint64(field))...)
	}
	return b
}

// What is behind a policy is read as if the policy had not been there, also where it is refused.
func TestReadLeavesWhatIsBehind(t *testing.T) {
	far, low := plainWith(4, num(1<<62+1)), plainWith(8, num(99))
	b := slices.Concat([]byte{7}, bytesOf(Plain()), []byte{8}, far, []byte{2, 'a', 'b'}, low, []byte{1}, plainWith(0, num(0)), bytesOf(policyOf(highs())))
	r := pack.NewReader(b)
	same(t, "ahead of all", r.Num(), uint64(7))
	p, fault := Read(r)
	same(t, "the first", p, Plain())
	same(t, "the first: Read's fault", fault, api.OK)
	same(t, "behind the first", r.Num(), uint64(8))
	p, fault = Read(r)
	same(t, "a far number", p, api.Policy{})
	same(t, "a far number: Read's fault", fault, api.Range)
	same(t, "behind the far number", r.Text(2), "ab")
	p, fault = Read(r)
	same(t, "a low number", p, api.Policy{})
	same(t, "a low number: Read's fault", fault, api.Range)
	same(t, "behind the low number", r.Bool(), true)
	_, fault = Read(r)
	same(t, "a Retain of 0: Read's fault", fault, api.Range)
	p, fault = Read(r)
	same(t, "the last", p, policyOf(highs()))
	same(t, "the last: Read's fault", fault, api.OK)
	same(t, "Left", r.Left(), 0)
	same(t, "the reader's fault", r.Fault(), api.OK)
	p, fault = Read(r)
	same(t, "one more", p, api.Policy{})
	same(t, "one more: Read's fault", fault, api.Truncated)
}

// readAs: what Read answers of bytes, and how many it leaves, by the chapter's words.
func readAs(b []byte) (api.Policy, api.Fault, int) {
	l := make([]int64, 9)
	far := false
	for at := range l {
		n, size := binary.Uvarint(b)
		switch {
		case size < 0 || size == 0 && len(b) >= 10:
			return api.Policy{}, api.Malformed, len(b)
		case size == 0:
			return api.Policy{}, api.Truncated, len(b)
		case size > 1 && b[size-1] == 0:
			return api.Policy{}, api.Malformed, len(b)
		}
		far = far || n > 4611686018427387904
		l[at], b = int64(min(n, greatest)), b[size:]
	}
	if p := policyOf(l); !far && rightAs(p) {
		return p, api.OK, len(b)
	}
	return api.Policy{}, api.Range, len(b)
}

// agrees: Read answers of bytes what the chapter's words say.
func agrees(t *testing.T, b []byte) {
	t.Helper()
	want, fault, left := readAs(b)
	r := pack.NewReader(b)
	if p, f := Read(r); p != want || f != fault || r.Left() != left {
		t.Errorf("Read of % X: %v, fault %d, %d left, not %v, fault %d, %d left", b, p, f, r.Left(), want, fault, left)
	}
}

func TestReadOfEachChangedByte(t *testing.T) {
	for _, p := range some()[:20] {
		b := append(bytesOf(p), 9)
		for at := range b {
			changed := slices.Clone(b)
			for n := range 256 {
				changed[at] = byte(n)
				agrees(t, changed)
			}
			agrees(t, slices.Delete(slices.Clone(b), at, at+1))
			agrees(t, slices.Insert(slices.Clone(b), at, b[at]))
			agrees(t, b[:at])
		}
	}
}

// All rows of ten bytes out of four, whatever Nums they are.
func TestReadOfAllBytesOfAFewKinds(t *testing.T) {
	b := make([]byte, 10)
	var choose func(at int)
	choose = func(at int) {
		if at == 9 {
			agrees(t, b[:9])
			agrees(t, b)
			return
		}
		for _, n := range []byte{0, 1, 100, 0x80} {
			b[at] = n
			choose(at + 1)
		}
	}
	b[9] = 101
	choose(0)
}
