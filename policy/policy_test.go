package policy

import (
	"bytes"
	"encoding/binary"
	"math"
	"slices"
	"strconv"
	"testing"

	"ossuary/api"
)

const (
	least    = math.MinInt64
	greatest = math.MaxInt64
)

// same fails the test where got is not what the chapter says.
func same[T comparable](t *testing.T, what string, got, want T) {
	t.Helper()
	if got != want {
		t.Errorf("%s: %v, not %v", what, got, want)
	}
}

// sameBytes: likewise, of bytes.
func sameBytes(t *testing.T, what string, got, want []byte) {
	t.Helper()
	if !bytes.Equal(got, want) {
		t.Errorf("%s: % X, not % X", what, got, want)
	}
}

// names: of the fields, in the order of api.
func names() []string {
	return []string{"Retain", "SealLag", "DayLag", "MonthLag", "ColdLag", "Base", "Cap", "Queue", "Wal"}
}

// numbers: a policy's fields, in the order of api.
func numbers(p api.Policy) []int64 {
	return []int64{p.Retain, p.SealLag, p.DayLag, p.MonthLag, p.ColdLag, p.Base, p.Cap, int64(p.Queue), p.Wal}
}

// policyOf: a policy with these fields.
func policyOf(l []int64) api.Policy {
	return api.Policy{Retain: l[0], SealLag: l[1], DayLag: l[2], MonthLag: l[3], ColdLag: l[4], Base: l[5], Cap: l[6], Queue: int(l[7]), Wal: l[8]}
}

// with: a policy whose field at a place is n.
func with(p api.Policy, at int, n int64) api.Policy {
	l := numbers(p)
	l[at] = n
	return policyOf(l)
}

// lows, highs: what each field is at least, and at most, by the chapter's words.
func lows() []int64 {
	return []int64{1, 0, 0, 0, 0, 1, 1, 1, 100}
}

func highs() []int64 {
	return []int64{1048576, 1048576, 1048576, 1048576, 1048576, 1048576, 1048576, 64, 1048576}
}

// rightAs: whether a policy is right, by the chapter's words, field by field.
func rightAs(p api.Policy) bool {
	if p.Retain < 1 || p.Retain > 1048576 {
		return false
	}
	for _, lag := range []int64{p.SealLag, p.DayLag, p.MonthLag, p.ColdLag} {
		if lag < 0 || lag > 1048576 {
			return false
		}
	}
	for _, ticks := range []int64{p.Base, p.Cap} {
		if ticks < 1 || ticks > 1048576 {
			return false
		}
	}
	return p.Queue >= 1 && p.Queue <= 64 && p.Wal >= 100 && p.Wal <= 1048576
}

func checkAs(p api.Policy) api.Fault {
	if rightAs(p) {
		return api.OK
	}
	return api.Range
}

// edges: numbers at the ends of some field's range, those beside them, such as are right once they are cut to fewer bits, and the ends of all numbers.
func edges() []int64 {
	return []int64{
		least, least + 1, least + 16, least + 100, -1 << 62, -1<<32 + 16, -1 << 32, -1<<32 - 1, -1 << 31, -1 << 20, -4000, -101, -100, -65, -64, -3, -2, -1,
		0, 1, 2, 3, 15, 16, 60, 63, 64, 65, 66, 98, 99, 100, 101, 127, 128, 255, 256, 257, 4000, 1<<16 + 1,
		1<<20 - 2, 1<<20 - 1, 1 << 20, 1<<20 + 1, 1<<20 + 2, 1 << 21, 1<<31 - 1, 1 << 31, 1 << 32, 1<<32 + 1, 1<<32 + 16, 1<<32 + 100,
		1<<62 - 1, 1 << 62, 1<<62 + 1, greatest - 1, greatest,
	}
}

// wrongs: for each field numbers just out of its range, and far out of it.
func wrongs(at int) []int64 {
	low, high := lows()[at], highs()[at]
	return []int64{low - 1, high + 1, -1, least, greatest, 1<<32 + low, -high}
}

// some: policies that are right: plain, with each field at its ends, and with all of them there.
func some() []api.Policy {
	l := []api.Policy{Plain(), policyOf(lows()), policyOf(highs()), policyOf([]int64{128, 127, 129, 16384, 16383, 300, 3, 64, 128})}
	for at := range names() {
		for _, p := range slices.Clone(l[:3]) {
			l = append(l, with(p, at, lows()[at]), with(p, at, lows()[at]+1), with(p, at, highs()[at]-1), with(p, at, highs()[at]))
		}
	}
	return l
}

// num: a Num's bytes, by the library.
func num(n uint64) []byte {
	return binary.AppendUvarint(nil, n)
}

// bytesOf: a policy's bytes, by the chapter's words.
func bytesOf(p api.Policy) []byte {
	var b []byte
	for _, n := range numbers(p) {
		b = append(b, num(uint64(n))...)
	}
	return b
}

// --- P1801: Plain

func TestPlain(t *testing.T) {
	want := []int64{2000, 1, 2, 24, 48, 2, 60, 16, 4000}
	for at, name := range names() {
		same(t, "Plain's "+name, numbers(Plain())[at], want[at])
	}
	same(t, "Plain is right", Check(Plain()), api.OK)
	same(t, "Plain, asked again", Plain(), policyOf(want))
}

// --- P1801: Check

func TestCheckOfEachFieldAtEachEdge(t *testing.T) {
	for at, name := range names() {
		for _, p := range []api.Policy{Plain(), policyOf(lows()), policyOf(highs())} {
			for _, n := range edges() {
				want := api.OK
				if n < lows()[at] || n > highs()[at] {
					want = api.Range
				}
				same(t, name+" of "+strconv.FormatInt(n, 10), Check(with(p, at, n)), want)
			}
		}
	}
}

func TestCheckOfTheEdgesThatTheChapterNames(t *testing.T) {
	for _, c := range []struct {
		fields   []int
		in, outs []int64
	}{
		{[]int{0, 5, 6}, []int64{1, 1048576}, []int64{0, -1, 1048577}},
		{[]int{1, 2, 3, 4}, []int64{0, 1, 1048576}, []int64{-1, 1048577}},
		{[]int{7}, []int64{1, 64}, []int64{0, -1, 65}},
		{[]int{8}, []int64{100, 1048576}, []int64{99, 1, 0, -1, -100, 1048577}},
	} {
		for _, at := range c.fields {
			for _, n := range c.in {
				same(t, names()[at]+" of "+strconv.FormatInt(n, 10), Check(with(Plain(), at, n)), api.OK)
			}
			for _, n := range c.outs {
				same(t, names()[at]+" of "+strconv.FormatInt(n, 10), Check(with(Plain(), at, n)), api.Range)
			}
		}
	}
	same(t, "the zero policy", Check(api.Policy{}), api.Range)
}

// Each choice of fields at their ends, just below, and just above.
func TestCheckOfFieldsAllAtOnce(t *testing.T) {
	l := make([]int64, 9)
	var choose func(at int)
	choose = func(at int) {
		if at == len(l) {
			if p := policyOf(l); Check(p) != checkAs(p) {
				t.Errorf("Check of %v: %v", p, Check(p))
			}
			return
		}
		for _, n := range []int64{lows()[at] - 1, lows()[at], highs()[at], highs()[at] + 1} {
			l[at] = n
			choose(at + 1)
		}
	}
	choose(0)
}

// No two fields that are out of their ranges make up for one another, and none of them for the others.
func TestCheckOfTwoFields(t *testing.T) {
	for a := range names() {
		for b := range a {
			for _, n := range edges() {
				for _, m := range edges() {
					p := with(with(Plain(), a, n), b, m)
					same(t, names()[a]+" and "+names()[b], Check(p), checkAs(p))
				}
			}
		}
	}
	for _, n := range edges() {
		p := policyOf(slices.Repeat([]int64{n}, 9))
		same(t, "all of "+strconv.FormatInt(n, 10), Check(p), checkAs(p))
	}
}

// --- P1801: Encode

func TestEncodeOfPlain(t *testing.T) {
	b, fault := Encode(Plain())
	same(t, "Encode's fault", fault, api.OK)
	sameBytes(t, "Plain", b, []byte{0xD0, 0x0F, 1, 2, 24, 48, 2, 60, 16, 0xA0, 0x1F})
}

func TestEncodePutsFieldByField(t *testing.T) {
	rising := policyOf([]int64{101, 102, 103, 104, 105, 106, 107, 8, 109})
	b, fault := Encode(rising)
	same(t, "Encode's fault", fault, api.OK)
	sameBytes(t, "rising fields", b, []byte{101, 102, 103, 104, 105, 106, 107, 8, 109})
	for _, p := range some() {
		b, fault := Encode(p)
		same(t, "Encode's fault", fault, api.OK)
		sameBytes(t, "a right policy", b, bytesOf(p))
	}
}

func TestEncodeRefuses(t *testing.T) {
	for at, name := range names() {
		for _, n := range wrongs(at) {
			b, fault := Encode(with(Plain(), at, n))
			same(t, name+" of "+strconv.FormatInt(n, 10), fault, api.Range)
			same(t, name+": no bytes", len(b), 0)
		}
	}
	b, fault := Encode(api.Policy{})
	same(t, "the zero policy", fault, api.Range)
	same(t, "the zero policy: no bytes", len(b), 0)
}

func TestEncodeAnswersNewBytes(t *testing.T) {
	first, _ := Encode(Plain())
	second, _ := Encode(Plain())
	for i := range first[:cap(first)] {
		first[:cap(first)][i] = 0xEE
	}
	third, _ := Encode(Plain())
	sameBytes(t, "answered ahead", second, bytesOf(Plain()))
	sameBytes(t, "answered behind", third, bytesOf(Plain()))
}
