package manifest

import (
	"slices"
	"strconv"
	"testing"

	"ossuary/api"
)

// --- P2104

// rows: records that can be done one behind the other, without a pattern, none that can't be among them.
func rows(n int, seed uint64) []Record {
	throw := stir(seed)
	var m model
	l := []Record{numbered(snap(ones(some()[:throw(12)]...)...), 1)}
	m, _ = m.step(l[0])
	for i := int64(2); len(l) < n; i++ {
		r := thrown(m, i, throw)
		if next, fault := m.step(r); fault == api.OK {
			l, m = append(l, r), next
		}
	}
	return l
}

// snapped: the state that Snap's record, encoded, is replayed to.
func snapped(t *testing.T, what string, s *State) *State {
	t.Helper()
	b, fault := Encode(Snap(s))
	same(t, what+": Encode's fault", fault, api.OK)
	again, n, fault := Replay(b)
	same(t, what+": Replay's fault", fault, api.OK)
	same(t, what+": how many bytes", n, len(b))
	return again
}

func TestWhatIsSnappedIsTheStateThatItWas(t *testing.T) {
	for _, entries := range [][]api.Entry{nil, ones(some()...), edgeEntries(), {cold(0)}, ones(edgeParts()[:1]...), ones(hours(0, 1000)...)} {
		s, m := stateOf(t, entries...)
		holds(t, "snapped", snapped(t, "snapped", s), m)
		holds(t, "snapped twice", snapped(t, "again", snapped(t, "snapped", s)), m)
		other, _ := stateOf(t, ones(monthPart(0), dayPart(31), hourPart(20000))...)
		same(t, "Step's fault", Step(other, Snap(s)), api.OK)
		holds(t, "snapped upon another one", other, m)
	}
}

func TestWhatIsSnappedGoesOnAsItWould(t *testing.T) {
	for seed := range uint64(6) {
		l := rows(60, seed)
		s, m := empty(), model{}
		for i, r := range l {
			m, _ = steps(t, "step", s, m, r)
			again := snapped(t, "behind "+strconv.Itoa(i), s)
			holds(t, "behind "+strconv.Itoa(i), again, m)
			if i+1 < len(l) {
				next, _ := m.step(l[i+1])
				same(t, "Step's fault", Step(again, l[i+1]), api.OK)
				holds(t, "one step further", again, next)
			}
		}
	}
}

func TestWhatIsEncodedIsParsedAsItWas(t *testing.T) {
	for seed := range uint64(6) {
		for _, r := range rows(60, seed) {
			b, fault := Encode(r)
			same(t, "Encode's fault", fault, api.OK)
			s, _, _ := Replay(b)
			same(t, "whether it stands alone", s != nil, r.Snap && len(r.Edit.Drop) == 0)
			parses(t, "its payload", payloadOf(r), r, api.OK)
		}
	}
}

// ends: where each of a row's records ends.
func ends(l []Record) []int {
	var ends []int
	n := 0
	for _, r := range l {
		n += len(bytesOf(r))
		ends = append(ends, n)
	}
	return ends
}

// TestRecordsThatAreCut: all records are done that are whole, and nothing else.
func TestRecordsThatAreCut(t *testing.T) {
	all := [][]Record{row(), rows(20, 3), rows(20, 4), {numbered(snap(ones(some()...)...), 1)}, slices.Concat(row(), row())}
	for i, l := range all {
		data, stops := stream(l), ends(l)
		for cut := range len(data) + 1 {
			whole, size := 0, 0
			for whole < len(l) && stops[whole] <= cut {
				size = stops[whole]
				whole++
			}
			what := "row " + strconv.Itoa(i) + ", cut at " + strconv.Itoa(cut)
			if whole == 0 {
				replaysNot(t, what, api.Truncated, data[:cut])
				continue
			}
			m, _ := modelOf(l, whole)
			replays(t, what, data[:cut], m, size)
			if t.Failed() {
				t.Fatal(what)
			}
		}
	}
}

// TestRecordsThatAreCutAndGoOn: what is written behind just the bytes that were told is done with them.
func TestRecordsThatAreCutAndGoOn(t *testing.T) {
	l := rows(12, 8)
	data := stream(l)
	for cut := ends(l)[0]; cut <= len(data); cut++ {
		s, n, fault := Replay(data[:cut])
		same(t, "Replay's fault", fault, api.OK)
		next := numbered(edits(nil, one(monthPart(300))), 99)
		if cut%2 == 0 {
			next = numbered(snap(append(entriesOf(s), one(monthPart(300)))...), 99)
		}
		same(t, "Step's fault", Step(s, next), api.OK)
		m := model{numbersOf(next), next.Rules, entriesOf(s)}
		replays(t, "cut at "+strconv.Itoa(cut), append(slices.Clone(data[:n]), bytesOf(next)...), m, n+len(bytesOf(next)))
	}
}

// TestRecordsWithAByteChanged: those ahead of the change are done, and none behind it.
func TestRecordsWithAByteChanged(t *testing.T) {
	l := row()
	data, stops := stream(l), ends(l)
	for at := range data {
		whole := 0
		for stops[whole] <= at {
			whole++
		}
		for _, by := range []byte{1, 0x80, 0xFF} {
			changed := slices.Clone(data)
			changed[at] ^= by
			what := "changed at " + strconv.Itoa(at)
			if whole == 0 {
				replaysNot(t, what, api.Truncated, changed)
				continue
			}
			m, size := modelOf(l, whole)
			replays(t, what, changed, m, size)
		}
	}
}

// TestEachRowOfRecords: rows of four records, such as can be done and such as can't.
func TestEachRowOfRecords(t *testing.T) {
	kinds := []Record{
		numbered(snap(one(hourPart(5))), 1), numbered(snap(one(dayPart(0)), one(dayPart(1))), 2), numbered(edits(hours(5, 1), one(dayPart(0))), 3), numbered(edits(nil, one(hourPart(5))), 4),
		numbered(edits([]api.Part{dayPart(0)}), 5), numbered(snap(), 6), numbered(record(true, hours(5, 1), nil), 7), numbered(snap(ones(hourPart(5), dayPart(0))...), 8), withNumbers(snap(), [5]int64{}),
	}
	n := len(kinds)
	for way := range n * n * n * n {
		l := []Record{kinds[way%n], kinds[way/n%n], kinds[way/n/n%n], kinds[way/n/n/n]}
		replaysAs(t, "way "+strconv.Itoa(way), l)
		if t.Failed() {
			t.Fatalf("way %d", way)
		}
	}
}

// TestReplayOfRowsWithoutAPattern: rows in which some records can't be done.
func TestReplayOfRowsWithoutAPattern(t *testing.T) {
	done := 0
	for seed := range uint64(400) {
		throw := stir(seed)
		l := rows(1+throw(12), seed)
		for range throw(3) {
			m, _, _ := replayAs(l)
			l = slices.Insert(l, throw(len(l)+1), thrown(m, 70, throw))
		}
		replaysAs(t, "row "+strconv.FormatUint(seed, 10), l, make([]byte, throw(5))...)
		if _, n, _ := replayAs(l); n == len(stream(l)) {
			done++
		}
	}
	same(t, "whether some were done, and some not", done > 50 && done < 350, true)
}

// TestReplayOfBytesWithoutAPattern: whatever comes, it ends, without a state.
func TestReplayOfBytesWithoutAPattern(t *testing.T) {
	throw := stir(5)
	for range 20000 {
		data := make([]byte, throw(60))
		for i := range data {
			data[i] = byte(throw(256) >> throw(8))
		}
		s, n, fault := Replay(data)
		same(t, "whether there is a state", s != nil, false)
		same(t, "bytes", n, 0)
		same(t, "whether there is a fault", fault == api.OK, false)
	}
}
