package manifest

import (
	"bytes"
	"slices"
	"strconv"
	"testing"

	"ossuary/api"
	"ossuary/catalog"
)

// replays: what Replay answers of data, and that it changes nothing: a state that is as the model.
func replays(t *testing.T, what string, data []byte, m model, n int) *State {
	t.Helper()
	data, unchanged := roomyBytes(t, data)
	s, whole, fault := Replay(data)
	same(t, what+": Replay's fault", fault, api.OK)
	same(t, what+": how many bytes", whole, n)
	holds(t, what+": Replay", s, m)
	unchanged(what)
	return s
}

// replaysNot: Replay answers a fault, and nothing else.
func replaysNot(t *testing.T, what string, want api.Fault, pieces ...[]byte) {
	t.Helper()
	data, unchanged := roomyBytes(t, slices.Concat(pieces...))
	s, n, fault := Replay(data)
	same(t, what+": Replay's fault", fault, want)
	same(t, what+": how many bytes", n, 0)
	same(t, what+": whether there is a state", s != nil, false)
	unchanged(what)
}

// replaysAs: Replay of these records' bytes, and what is behind, answers what the chapter's words do.
func replaysAs(t *testing.T, what string, l []Record, behind ...byte) {
	t.Helper()
	data := append(stream(l), behind...)
	m, n, fault := replayAs(l)
	if n == 0 {
		replaysNot(t, what, fault, data)
		return
	}
	replays(t, what, data, m, n)
}

// stream: records' bytes, one behind the other.
func stream(l []Record) []byte {
	var data []byte
	for _, r := range l {
		data = append(data, bytesOf(r)...)
	}
	return data
}

// row: records, of which each one can be done behind those ahead.
func row() []Record {
	return []Record{
		numbered(snap(ones(hourPart(5), hourPart(24), dayPart(40))...), 1),
		numbered(edits(nil, one(hourPart(30))), 2),
		numbered(edits([]api.Part{hourPart(24), hourPart(30)}, one(dayPart(1))), 3),
		numbered(edits([]api.Part{hourPart(5), dayPart(1)}, one(monthPart(0))), 4),
		numbered(edits([]api.Part{monthPart(0)}, cold(0)), 5),
	}
}

// modelOf: what a row comes to behind its first n records, and how many bytes these have.
func modelOf(l []Record, n int) (model, int) {
	m, size, _ := replayAs(l[:n])
	return m, size
}

// --- P2103: Replay

func TestReplayOfNoBytes(t *testing.T) {
	replaysNot(t, "nil", api.Truncated)
	replaysNot(t, "no bytes", api.Truncated, []byte{})
}

// noFrames: bytes that are no frame, whatever is behind.
func noFrames() [][]byte {
	whole := bytesOf(numbered(snap(one(hourPart(7))), 9))
	broken, inside := slices.Clone(whole), slices.Clone(whole)
	broken[len(broken)-1] ^= 1
	inside[7] ^= 1
	return [][]byte{
		broken, inside, whole[1:], {0x80, 0}, {0x81, 0}, {0, 0, 0, 0, 1}, {0, 1, 0, 0, 0}, {9, 9},
		{0xFF, 0xFF, 0xFF, 0xFF, 0xFF, 0xFF, 0xFF, 0xFF, 0xFF, 2}, append(num(api.MaxFile+1), 7),
	}
}

func TestReplayWithoutAFrame(t *testing.T) {
	whole := bytesOf(row()[0])
	for i, b := range noFrames() {
		what := "no frame " + strconv.Itoa(i)
		replaysNot(t, what, api.Truncated, b)
		replaysNot(t, what+", and a record behind", api.Truncated, b, whole)
	}
	for end := range whole {
		replaysNot(t, "cut in the first frame", api.Truncated, whole[:end])
	}
}

// wrongPayloads: payloads that Parse refuses, of each kind.
func wrongPayloads() [][]byte {
	r := numbered(snap(one(hourPart(7))), 9)
	p := payloadOf(r)
	l := [][]byte{
		nil, {0}, {1}, {2}, p[:len(p)-1], p[:8], append(slices.Clone(p), 0), append([]byte{2}, p[1:]...), bytesOf(r), slices.Concat(p, p), make([]byte, 300),
		changed(r, 1, num(topNum+1)), changed(r, 2, num(topNum+1)), changed(r, 2, long(5)), changed(r, 8, num(1001)), changed(r, 7, num(1001)),
		changed(r, 9, num(0)), changed(r, 9, num(4)), changed(r, 9, num(1<<32+1)), changed(r, 10, num(lastHour+1)), changed(r, 14, []byte{1}), changed(r, 14, []byte{2}),
		changed(r, 2, num(topTick+1)), changed(r, 4, num(topFloor+1)), changed(r, 5, num(0)), changed(r, 6, rulesOf(api.Policy{})),
	}
	for _, p := range wrongRules() {
		l = append(l, changed(r, 6, rulesOf(p)))
	}
	return l
}

func TestReplayOfAFirstPayloadThatParseRefuses(t *testing.T) {
	told := map[api.Fault]int{}
	for i, p := range wrongPayloads() {
		_, want := parseAs(p)
		what := "wrong payload " + strconv.Itoa(i)
		replaysNot(t, what, want, framed(p))
		replaysNot(t, what+", and records behind", want, framed(p), stream(row()))
		replaysNot(t, what+", and nothing whole behind", want, framed(p), []byte{7, 7})
		told[want]++
		if len(p) > 0 && p[0] == 1 { // without Snap it's the same fault, since Parse's comes first
			p = append([]byte{0}, p[1:]...)
			replaysNot(t, what+", without Snap", want, framed(p), stream(row()))
		}
	}
	same(t, "whether each fault was told", told[api.OK] == 0 && told[api.Truncated] > 0 && told[api.Malformed] > 0 && told[api.Range] > 0, true)
}

func TestReplayOfAFirstRecordWithoutSnap(t *testing.T) {
	for i, r := range rightRecords() {
		r.Snap = false
		what := "record " + strconv.Itoa(i) + " without Snap"
		replaysNot(t, what, api.Malformed, bytesOf(r))
		replaysNot(t, what+", and a Snap behind", api.Malformed, bytesOf(r), stream(row()))
	}
	for _, r := range []Record{edits(hours(7, 1)), edits(nil, ones(hourPart(5), dayPart(0))...)} {
		replaysNot(t, "without Snap, and it could not be done", api.Malformed, bytesOf(r), stream(row()))
	}
}

func TestReplayOfAFirstRecordThatCanNotBeDone(t *testing.T) {
	for _, c := range []struct {
		r    Record
		want api.Fault
	}{
		{record(true, hours(7, 1), nil), api.Unknown},
		{record(true, hours(7, 1), ones(hourPart(7))), api.Unknown},
		{record(true, hours(7, 1), ones(hourPart(8), hourPart(8))), api.Unknown},
		{snap(ones(hourPart(5), hourPart(5))...), api.Twice},
		{snap(ones(hourPart(5), dayPart(9), dayPart(0))...), api.Twice},
		{snap(ones(monthPart(0), hourPart(743))...), api.Twice},
	} {
		replaysNot(t, "alone", c.want, bytesOf(c.r))
		replaysNot(t, "and records behind", c.want, bytesOf(c.r), stream(row()))
	}
}

func TestReplayOfOneRecord(t *testing.T) {
	done := 0
	for i, r := range rightRecords() {
		r.Snap = true
		if _, fault := (model{}).step(r); fault == api.OK {
			done++
		}
		replaysAs(t, "record "+strconv.Itoa(i), []Record{r})
	}
	same(t, "whether many were done", done > 40, true)
	b := bytesOf(snap())
	s := replays(t, "no entry", b, model{numbersOf(snap()), rules(), nil}, len(b))
	same(t, "no entry", s.Parts.Len(), 0)
}

func TestReplayOfManyRecords(t *testing.T) {
	l := row()
	for n := 1; n <= len(l); n++ {
		m, size := modelOf(l, n)
		replays(t, strconv.Itoa(n)+" records", stream(l[:n]), m, size)
		same(t, "bytes", size, len(stream(l[:n])))
	}
	l = nil
	for i := range int64(700) {
		l = append(l, numbered(record(i == 0, nil, ones(hourPart(i))), i+1))
	}
	m, size := modelOf(l, 700)
	same(t, "bytes", size, len(stream(l)))
	replays(t, "700 records", stream(l), m, size)
}

func TestReplayOfMoreThan1000Entries(t *testing.T) {
	l := []Record{numbered(snap(ones(hours(0, 1000)...)...), 1), numbered(edits(nil, ones(hours(1000, 1000)...)...), 2)}
	s := replays(t, "2000 entries", stream(l), model{numbersOf(l[1]), l[1].Rules, ones(hours(0, 2000)...)}, len(stream(l)))
	r := Snap(s)
	same(t, "2000 entries, snapped", len(r.Edit.Put), 2000)
	same(t, "that: Right", Right(r), api.Full)
}

func TestReplayOfSnapsInTheMidst(t *testing.T) {
	for at := range row() {
		l := slices.Insert(row(), at+1, numbered(snap(ones(some()...)...), 20))
		replaysAs(t, "Snap of others behind "+strconv.Itoa(at), l)
		l = slices.Insert(row(), at+1, numbered(snap(), 20))
		replaysAs(t, "Snap of nothing behind "+strconv.Itoa(at), l)
		m, _ := modelOf(row(), at+1)
		l = slices.Insert(row(), at+1, numbered(snap(m.rising()...), 20))
		replaysAs(t, "Snap of the same behind "+strconv.Itoa(at), l)
		_, size := modelOf(l, len(l))
		same(t, "bytes", size, len(stream(l)))
		l = slices.Insert(row(), at+1, numbered(record(true, hours(7, 1), nil), 20))
		replaysAs(t, "Snap that drops behind "+strconv.Itoa(at), l)
	}
	l := []Record{numbered(snap(ones(some()...)...), 1), numbered(snap(), 2), numbered(snap(ones(monthPart(0))...), 3), numbered(snap(ones(monthPart(0))...), 4)}
	replaysAs(t, "Snaps alone", l)
	_, size := modelOf(l, 4)
	same(t, "Snaps alone: bytes", size, len(stream(l)))
}

// What is no record that can be done ends all, wherever it is behind the first, and records behind it are not done.
func TestReplayEndsInTheMidst(t *testing.T) {
	var wrong [][]byte
	for _, p := range wrongPayloads()[:30] {
		wrong = append(wrong, framed(p))
	}
	wrong = append(wrong, noFrames()...)
	for _, r := range []Record{
		edits(hours(7, 1)), edits(hours(7, 1), one(monthPart(9))), edits([]api.Part{dayPart(40), dayPart(40)}), record(true, []api.Part{dayPart(40)}, nil),
		edits(nil, one(dayPart(40))), edits(nil, ones(monthPart(8), monthPart(8))...), snap(ones(monthPart(8), monthPart(8))...), edits(nil, one(monthPart(1))),
	} {
		wrong = append(wrong, bytesOf(numbered(r, 30)))
	}
	behind := [][]byte{bytesOf(numbered(edits(nil), 40)), bytesOf(numbered(snap(), 40)), bytesOf(numbered(edits(nil, one(monthPart(50))), 40))}
	l := row()
	for i, b := range wrong {
		for n := 1; n <= len(l); n++ {
			m, size := modelOf(l, n)
			what := "wrong " + strconv.Itoa(i) + " behind " + strconv.Itoa(n)
			replays(t, what, slices.Concat(stream(l[:n]), b), m, size)
			replays(t, what+", and the others", slices.Concat(stream(l[:n]), b, stream(l[n:])), m, size)
			for _, next := range behind {
				replays(t, what+", and another one", slices.Concat(stream(l[:n]), b, next), m, size)
			}
		}
	}
}

func TestReplayOfBytesBehind(t *testing.T) {
	l := row()
	m, size := modelOf(l, len(l))
	for n := range 256 {
		replays(t, "a byte behind", append(stream(l), byte(n)), m, size)
		replays(t, "two bytes behind", append(stream(l), byte(n), byte(n)), m, size)
	}
	for _, behind := range [][]byte{make([]byte, 4), make([]byte, 5), make([]byte, 50), []byte("\x09123456789\x26\x39\xF4\xCB"), bytes.Repeat([]byte{0xFF}, 50)} {
		replays(t, "bytes behind", slices.Concat(stream(l), behind), m, size)
	}
	big := framed(append(payloadOf(numbered(edits(nil), 50)), make([]byte, api.MaxFile-40)...))
	replays(t, "a frame that is long, and no record", slices.Concat(stream(l), big, bytesOf(numbered(edits(nil), 51))), m, size)
}

func TestReplayOfNumbersThatFallAndStay(t *testing.T) {
	l := []Record{
		withNumbers(snap(), [5]int64{topNum, topTick, topNum, topFloor, topNum}), withNumbers(edits(nil), [5]int64{9, 9, 9, 9, 9}), withNumbers(edits(nil), [5]int64{9, 9, 9, 9, 9}),
		withNumbers(edits(nil), [5]int64{4: 1}), withNumbers(snap(), [5]int64{5, 4, 3, 2, 1}), withNumbers(edits(nil), [5]int64{4, 5, 2, 3, 1}),
	}
	m, size := modelOf(l, len(l))
	same(t, "bytes", size, len(stream(l)))
	replays(t, "numbers", stream(l), m, size)
}

func TestReplayKeepsNothing(t *testing.T) {
	l := row()
	m, size := modelOf(l, len(l))
	data := stream(l)
	first, _, _ := Replay(data)
	second, _, _ := Replay(data)
	for i := range data {
		data[i] = 'z'
	}
	holds(t, "its bytes changed", first, m)
	same(t, "Step's fault", Step(first, snap(one(dayPart(9)))), api.OK)
	first.Parts = catalog.New()
	holds(t, "an earlier answer changed", second, m)
	replays(t, "again", stream(l), m, size)
}

// --- P2103: Snap

func TestSnapOfNil(t *testing.T) {
	sameRecord(t, "nil", Snap(nil), Record{})
}

func TestSnapOfStatesWithoutEntries(t *testing.T) {
	sameRecord(t, "the zero state", Snap(&State{}), Record{Snap: true})
	sameRecord(t, "an empty state", Snap(empty()), Record{Snap: true})
	s, _ := stateOf(t)
	want := withNumbers(snap(), [5]int64{71, 72, 73, 74, 75})
	want.Rules = s.Rules
	sameRecord(t, "numbers", Snap(s), want)
	s.Parts = nil
	sameRecord(t, "numbers, without Parts", Snap(s), want)
}

func TestSnapOfStatesWithEntries(t *testing.T) {
	for turn := range some() {
		turned := slices.Concat(some()[turn:], some()[:turn])
		for n := 1; n <= len(turned); n++ {
			s, m := stateOf(t, ones(turned[:n]...)...)
			want := withNumbers(snap(m.rising()...), m.numbers)
			want.Rules = m.rules
			sameRecord(t, "some", Snap(s), want)
			holds(t, "some, behind it", s, m)
		}
	}
	s, m := stateOf(t, append(edgeEntries(), one(hourPart(0)), cold(2))...)
	tells(t, "edges", Snap(s).Edit.Put, m.rising()...)
	s, _ = stateOf(t, ones(hours(500, 1001)...)...)
	tells(t, "1001 entries", Snap(s).Edit.Put, ones(hours(500, 1001)...)...)
}

// Snap refuses nothing: a state's numbers are told as they are, right or not.
func TestSnapOfStatesThatAreNotRight(t *testing.T) {
	s := &State{least, greatest, -1, topFloor + 1, 0, api.Policy{Queue: -5}, catalog.New()}
	sameRecord(t, "wrong numbers", Snap(s), Record{true, least, greatest, -1, topFloor + 1, 0, api.Policy{Queue: -5}, catalog.Edit{}})
}

func TestSnapAnswersNewLists(t *testing.T) {
	s, m := stateOf(t, ones(some()...)...)
	first, second := Snap(s), Snap(s)
	for i := range first.Edit.Put[:cap(first.Edit.Put)] {
		first.Edit.Put[:cap(first.Edit.Put)][i] = one(hourPart(9))
	}
	holds(t, "the record changed", s, m)
	same(t, "Step's fault", Step(s, edits(some())), api.OK)
	tells(t, "the state changed", second.Edit.Put, m.rising()...)
}
