package crc

import (
	"bytes"
	"hash/crc32"
	"math"
	"strings"
	"testing"

	"ossuary/api"
)

// same fails the test where got is not what the chapter says.
func same[T comparable](t *testing.T, what string, got, want T) {
	t.Helper()
	if got != want {
		t.Errorf("%s: %v, not %v", what, got, want)
	}
}

// sameBytes: likewise, of bytes.
func sameBytes(t *testing.T, what string, got, want []byte) {
	t.Helper()
	if !bytes.Equal(got, want) {
		t.Errorf("%s: % X, not % X", what, got, want)
	}
}

// wild: n bytes without a pattern, the same ones in each run.
func wild(n int) []byte {
	b := make([]byte, n)
	x := uint32(n) + 1
	for i := range b {
		x = x*1664525 + 1013904223
		b[i] = byte(x >> 24)
	}
	return b
}

// roomy: b with spare room behind it, and all that memory, to see whether any of it changes.
func roomy(b []byte) ([]byte, []byte) {
	all := append(append([]byte(nil), b...), bytes.Repeat([]byte{0xA5}, 16)...)
	return all[:len(b)], all
}

// known: checks that were not reckoned by this program.
func known() map[string]uint32 {
	return map[string]uint32{
		"":                         0,
		"123456789":                0xCBF43926,
		"a":                        0xE8B7BE43,
		"abc":                      0x352441C2,
		"message digest":           0x20159D7F,
		"\x00":                     0xD202EF8D,
		"\xff":                     0xFF000000,
		"\x00\x00\x00\x00":         0x2144DF1C,
		"\xff\xff\xff\xff":         0xFFFFFFFF,
		strings.Repeat("\x00", 32): 0x190A55AD,
		strings.Repeat("\xff", 32): 0xFF6CAB0B,
		"The quick brown fox jumps over the lazy dog": 0x414FA339,
	}
}

// sums: numbers that are checks of something, as each number is.
func sums() []uint32 {
	l := []uint32{0, 1, 0xCBF43926, 0xEDB88320, math.MaxUint32, math.MaxUint32 - 1}
	for i := range 32 {
		l = append(l, 1<<i, ^(1 << i))
	}
	return l
}

// --- P201

func TestSumOfWhatIsKnown(t *testing.T) {
	for text, want := range known() {
		same(t, "Sum of "+text, Sum([]byte(text)), want)
	}
	same(t, "Sum of nil", Sum(nil), 0)
	same(t, "Sum of no bytes", Sum([]byte{}), 0)
}

func TestSumOfEachByteAlone(t *testing.T) {
	for x := range 256 {
		b := []byte{byte(x)}
		same(t, "Sum", Sum(b), crc32.ChecksumIEEE(b))
	}
}

func TestSumOfEachLength(t *testing.T) {
	for n := range 300 {
		b := wild(n)
		same(t, "Sum", Sum(b), crc32.ChecksumIEEE(b))
	}
	b := wild(1<<20 + 3)
	same(t, "Sum of many bytes", Sum(b), crc32.ChecksumIEEE(b))
}

func TestMoreGoesOnWhereverBytesAreCut(t *testing.T) {
	for _, n := range []int{0, 1, 2, 9, 64} {
		b := wild(n)
		for i := range n + 1 {
			same(t, "More of two parts", More(Sum(b[:i]), b[i:]), Sum(b))
			for j := i; j <= n; j++ {
				same(t, "More of three parts", More(More(Sum(b[:i]), b[i:j]), b[j:]), Sum(b))
			}
		}
	}
	same(t, "More of a text", More(Sum([]byte("1234")), []byte("56789")), 0xCBF43926)
}

func TestMoreByteByByte(t *testing.T) {
	b := wild(100)
	sum := uint32(0)
	for i := range b {
		sum = More(sum, b[i:i+1])
		same(t, "More", sum, Sum(b[:i+1]))
	}
}

func TestMoreOfZeroIsSum(t *testing.T) {
	for text, want := range known() {
		same(t, "More of 0 and "+text, More(0, []byte(text)), want)
	}
}

func TestMoreOfNoBytesIsTheCheckItself(t *testing.T) {
	for _, sum := range sums() {
		same(t, "More of nil", More(sum, nil), sum)
		same(t, "More of no bytes", More(sum, []byte{}), sum)
	}
}

func TestMoreOfAnyNumber(t *testing.T) {
	for _, sum := range sums() {
		for _, n := range []int{1, 2, 5, 33} {
			b := wild(n)
			same(t, "More", More(sum, b), crc32.Update(sum, crc32.IEEETable, b))
		}
	}
}

func TestSumAndMoreKeepNothing(t *testing.T) {
	first := Sum([]byte("abc"))
	More(17, []byte("xyz"))
	same(t, "Sum again", Sum([]byte("abc")), first)
	same(t, "More again", More(17, []byte("xyz")), More(17, []byte("xyz")))
}

// --- P202

func TestPut(t *testing.T) {
	for _, c := range []struct{ bytes, want string }{
		{"", "\x00\x00\x00\x00"},
		{"123456789", "123456789\x26\x39\xF4\xCB"},
		{"a", "a\x43\xBE\xB7\xE8"},
		{"\x00", "\x00\x8D\xEF\x02\xD2"},
		{"\xff", "\xff\x00\x00\x00\xff"},
		{"\xff\xff\xff\xff", "\xff\xff\xff\xff\xff\xff\xff\xff"},
	} {
		sameBytes(t, "Put", Put([]byte(c.bytes)), []byte(c.want))
	}
	sameBytes(t, "Put of nil", Put(nil), make([]byte, 4))
}

func TestGetOfWhatWasPut(t *testing.T) {
	for n := range 70 {
		b := wild(n)
		got, fault := Get(Put(b))
		sameBytes(t, "Get", got, b)
		same(t, "Get: Fault", fault, api.OK)
		twice, fault := Get(Put(Put(b)))
		sameBytes(t, "Get of Put of Put", twice, Put(b))
		same(t, "Get of Put of Put: Fault", fault, api.OK)
	}
	got, fault := Get(make([]byte, 4))
	same(t, "Get of no bytes and their check", len(got), 0)
	same(t, "Get of no bytes and their check: Fault", fault, api.OK)
}

// refused fails the test where Get hands out b, or names another fault.
func refused(t *testing.T, what string, b []byte, want api.Fault) {
	t.Helper()
	got, fault := Get(b)
	same(t, what+": Fault", fault, want)
	same(t, what+": bytes", len(got), 0)
}

func TestGetOfTooFewBytes(t *testing.T) {
	refused(t, "nil", nil, api.Truncated)
	for n := range 4 {
		refused(t, "zeros", make([]byte, n), api.Truncated)
		refused(t, "begin of a text and its check", Put([]byte("abc"))[:n], api.Truncated)
		refused(t, "spare room behind", Put(nil)[:n], api.Truncated)
	}
}

func TestGetOfAWrongCheck(t *testing.T) {
	for _, n := range []int{0, 1, 9, 40} {
		for i := range 32 {
			b := Put(wild(n))
			b[n+i/8] ^= 1 << (i % 8)
			refused(t, "one bit of the check", b, api.BadSum)
		}
	}
	for what, text := range map[string]string{
		"highest byte first":      "123456789\xCB\xF4\x39\x26",
		"bits turned":             "123456789\xD9\xC6\x0B\x34",
		"check of other bytes":    "123456789\x43\xBE\xB7\xE8",
		"only the first byte":     "123456789\x26\x00\x00\x00",
		"only the last byte":      "123456789\x00\x00\x00\xCB",
		"no check":                "123456789",
		"cut off by one at begin": "23456789\x26\x39\xF4\xCB",
		"cut off by one at end":   "123456789\x26\x39\xF4",
		"one byte behind":         "123456789\x26\x39\xF4\xCB\x00",
		"no bytes, all bits 1":    "\xff\xff\xff\xff",
		"no bytes, check of one":  "\x43\xBE\xB7\xE8",
	} {
		refused(t, what, []byte(text), api.BadSum)
	}
}

func TestPutHandsOutNewMemory(t *testing.T) {
	b, all := roomy([]byte("abc"))
	before := bytes.Clone(all)
	p := Put(b)
	for i := range p {
		p[i] ^= 0xFF
	}
	_ = append(p, 7)
	sameBytes(t, "what was handed in, and its spare room", all, before)
	q := Put(b)
	b[0] = 'x'
	sameBytes(t, "Put, behind a change of what was handed in", q, Put([]byte("abc")))
}

func TestGetHandsOutNewMemory(t *testing.T) {
	b, all := roomy(Put([]byte("abc")))
	before := bytes.Clone(all)
	p, fault := Get(b)
	same(t, "Fault", fault, api.OK)
	for i := range p {
		p[i] ^= 0xFF
	}
	_ = append(p, "xxxxxxxx"...)
	sameBytes(t, "what was handed in, and its spare room", all, before)
	q, _ := Get(b)
	b[0] = 'x'
	sameBytes(t, "Get, behind a change of what was handed in", q, []byte("abc"))
}

func TestNothingThatIsHandedInChanges(t *testing.T) {
	for _, text := range []string{"", "ab", "abc", string(Put([]byte("abc"))), "no check at all"} {
		b, all := roomy([]byte(text))
		before := bytes.Clone(all)
		Sum(b)
		More(5, b)
		Put(b)
		Get(b)
		sameBytes(t, "what was handed in, and its spare room", all, before)
	}
}

// --- P203

func TestOneBitIsAnotherCheck(t *testing.T) {
	for _, n := range []int{1, 2, 3, 4, 9, 33, 200} {
		for _, b := range [][]byte{wild(n), make([]byte, n), bytes.Repeat([]byte{0xFF}, n)} {
			sum := Sum(b)
			for i := range 8 * n {
				b[i/8] ^= 1 << (i % 8)
				if Sum(b) == sum {
					t.Errorf("of %d bytes: bit %d changes, the check does not", n, i)
				}
				b[i/8] ^= 1 << (i % 8)
			}
		}
	}
}

func TestOneBitIsRefused(t *testing.T) {
	for _, n := range []int{0, 1, 4, 9, 100} {
		b := Put(wild(n))
		for i := range 8 * len(b) {
			b[i/8] ^= 1 << (i % 8)
			refused(t, "one bit changed", b, api.BadSum)
			b[i/8] ^= 1 << (i % 8)
		}
	}
}
