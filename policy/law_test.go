package policy

import (
	"slices"
	"strconv"
	"testing"

	"ossuary/api"
	"ossuary/pack"
)

// --- P1803

// stir hands out numbers from 0 to below, without a pattern, the same ones in each run.
func stir(seed uint64) func(below int64) int64 {
	return func(below int64) int64 {
		seed = seed*6364136223846793005 + 1442695040888963407
		return int64(seed>>33) % below
	}
}

// anyOf: right policies without a pattern, small numbers as often as great ones.
func anyOf(n int) []api.Policy {
	next := stir(18)
	var l []api.Policy
	for range n {
		fields := make([]int64, 9)
		for at := range fields {
			low, high := lows()[at], highs()[at]
			room := min(high-low+1, int64(1)<<next(22))
			fields[at] = low + next(room)
		}
		l = append(l, policyOf(fields))
	}
	return l
}

func TestWhatIsEncodedIsReadAsItWas(t *testing.T) {
	for _, p := range append(some(), anyOf(3000)...) {
		b, fault := Encode(p)
		same(t, "Encode's fault", fault, api.OK)
		r := pack.NewReader(b)
		got, fault := Read(r)
		same(t, "Read's fault", fault, api.OK)
		same(t, "read", got, p)
		same(t, "Left", r.Left(), 0)
		again, _ := Encode(got)
		sameBytes(t, "encoded again", again, b)
	}
}

// From any place of a reader's bytes, one policy behind the other, other things between them.
func TestPoliciesAreReadFromAnyPlace(t *testing.T) {
	l := append(some(), anyOf(300)...)
	var w pack.Writer
	var b []byte
	for i, p := range l {
		policy, _ := Encode(p)
		b = append(b, policy...)
		b = append(b, num(uint64(i))...)
		w.Text(string(policy)).Bool(i%2 == 0)
	}
	r := pack.NewReader(b)
	for i, p := range l {
		got, fault := Read(r)
		same(t, "Read's fault", fault, api.OK)
		same(t, "read", got, p)
		same(t, "behind it", r.Num(), uint64(i))
	}
	same(t, "Left", r.Left(), 0)
	inner := pack.NewReader(w.Bytes())
	for i, p := range l {
		got, fault := Read(pack.NewReader([]byte(inner.Text(100))))
		same(t, "Read's fault, in a text", fault, api.OK)
		same(t, "read, in a text", got, p)
		same(t, "behind it, in a text", inner.Bool(), i%2 == 0)
	}
}

// What is read is encoded as its bytes were: a right policy has no others.
func TestWhatIsReadIsEncodedAsItWas(t *testing.T) {
	next := stir(81)
	taken := 0
	for range 200000 {
		b := make([]byte, 12)
		for i := range b {
			b[i] = byte(next(128))
			if next(8) == 0 {
				b[i] |= 0x80
			}
		}
		r := pack.NewReader(b)
		p, fault := Read(r)
		if fault != api.OK {
			same(t, "refused", p, api.Policy{})
			continue
		}
		taken++
		same(t, "Check of what is read", Check(p), api.OK)
		again, _ := Encode(p)
		sameBytes(t, "encoded again", again, b[:len(b)-r.Left()])
	}
	same(t, "some are read", taken > 1000, true)
}

func TestDelaysNeverFallAndNeverAreAboveCap(t *testing.T) {
	for _, p := range append(some(), anyOf(3000)...) {
		risesUpTo(t, p)
	}
	for base := range int64(70) {
		for top := range int64(70) {
			risesUpTo(t, waits(base+1, top+1))
		}
	}
}

// risesUpTo: a policy's delays begin with Base, never fall, never are above Cap, and come to it.
func risesUpTo(t *testing.T, p api.Policy) {
	t.Helper()
	what := "Base " + strconv.FormatInt(p.Base, 10) + ", Cap " + strconv.FormatInt(p.Cap, 10)
	l := slices.Sorted(slices.Values(tries()))
	last := int64(1)
	for _, try := range l {
		delay := Delay(p, try)
		if delay < last || delay > p.Cap {
			t.Errorf("%s, try %d: %d behind %d", what, try, delay, last)
		}
		last = delay
	}
	same(t, what+": at first", Delay(p, 0), min(p.Base, p.Cap))
	same(t, what+": in the end", last, p.Cap)
}
