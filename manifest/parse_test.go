package manifest

import (
	"bytes"
	"encoding/binary"
	"math"
	"slices"
	"testing"

	"ossuary/api"
)

// parses: what Parse answers, and that it changes nothing.
func parses(t *testing.T, what string, p []byte, want Record, fault api.Fault) {
	t.Helper()
	p, unchanged := roomyBytes(t, p)
	r, f := Parse(p)
	same(t, what+": Parse's fault", f, fault)
	sameRecord(t, what, r, want)
	unchanged(what)
}

// refuses: Parse of the pieces, one behind the other, answers a fault, and no record.
func refuses(t *testing.T, what string, fault api.Fault, pieces ...[]byte) {
	t.Helper()
	parses(t, what, slices.Concat(pieces...), Record{}, fault)
}

// --- Bytes read by the chapter's words, another way than by the program.

// walker reads bytes up to the first fault.
type walker struct {
	b     []byte
	fault api.Fault
	far   bool
}

func (w *walker) any() uint64 {
	if w.fault != api.OK {
		return 0
	}
	n, size := binary.Uvarint(w.b)
	switch {
	case size == 0 && len(w.b) < 10:
		w.fault = api.Truncated
	case size <= 0 || len(num(n)) != size:
		w.fault = api.Malformed
	default:
		w.b = w.b[size:]
		return n
	}
	return 0
}

func (w *walker) num() int64 {
	n := w.any()
	if n > topNum {
		w.far = true
	}
	return int64(n)
}

func (w *walker) count() int {
	n := w.any()
	if n > 1000 {
		w.fault, n = api.Malformed, 0
	}
	return int(n)
}

func (w *walker) flag() bool {
	switch {
	case w.fault != api.OK:
	case len(w.b) == 0:
		w.fault = api.Truncated
	case w.b[0] > 1:
		w.fault = api.Malformed
	default:
		b := w.b[0]
		w.b = w.b[1:]
		return b == 1
	}
	return false
}

func (w *walker) policy() api.Policy {
	var n [9]int64
	far := false
	for i := range n {
		u := w.any()
		far = far || u > topNum
		n[i] = int64(u)
	}
	p := api.Policy{Retain: n[0], SealLag: n[1], DayLag: n[2], MonthLag: n[3], ColdLag: n[4], Base: n[5], Cap: n[6], Queue: int(n[7]), Wal: n[8]}
	if w.fault == api.OK && (far || !rightRulesAs(p)) {
		w.fault = api.Range
	}
	return p
}

func (w *walker) part() api.Part {
	tier := w.num()
	return api.Part{Tier: int(tier), Index: w.num()}
}

// parseAs: what Parse answers by the chapter's words.
func parseAs(p []byte) (Record, api.Fault) {
	w := &walker{b: p}
	var r Record
	r.Snap = w.flag()
	r.Seq, r.Tick, r.Budget, r.Floor, r.Next = w.num(), w.num(), w.num(), w.num(), w.num()
	r.Rules = w.policy()
	for range w.count() {
		r.Edit.Drop = append(r.Edit.Drop, w.part())
	}
	for range w.count() {
		r.Edit.Put = append(r.Edit.Put, api.Entry{Part: w.part(), Seg: w.num(), Mark: w.num(), Rows: w.num(), Cold: w.flag()})
	}
	switch {
	case w.fault != api.OK:
		return Record{}, w.fault
	case len(w.b) > 0 || w.far:
		return Record{}, api.Malformed
	case rightAs(r) != api.OK:
		return Record{}, rightAs(r)
	}
	return r, api.OK
}

// agrees: Parse answers what the chapter's words do; it tells the fault.
func agrees(t *testing.T, what string, p []byte) api.Fault {
	t.Helper()
	want, fault := parseAs(p)
	parses(t, what, p, want, fault)
	return fault
}

// small: records of a few pieces, that have pieces of each kind.
func small() []Record {
	return []Record{
		snap(), edits(hours(3, 2)), snap(cold(0), one(dayPart(40))), edits([]api.Part{dayPart(1), monthPart(2)}, one(hourPart(300)), cold(3)),
		withNumbers(edits(hours(lastHour, 1), edgeEntries()[4]), [5]int64{topNum, topTick, topNum, topFloor, topNum}), withNumbers(snap(edgeEntries()[0]), [5]int64{4: 1}),
	}
}

// changed: a record's payload, but with other bytes in the place of one piece.
func changed(r Record, at int, b []byte) []byte {
	l := piecesOf(r)
	l[at].bytes = b
	return joined(l)
}

// --- P2101: Parse

func TestParseOfWhatEncodePuts(t *testing.T) {
	for i, r := range rightRecords() {
		what := "record " + number(int64(i))
		parses(t, what, payloadOf(r), r, api.OK)
		same(t, what+", by the chapter's words", agrees(t, what, payloadOf(r)), api.OK)
		r.Snap = !r.Snap
		parses(t, what+", with the other Snap", payloadOf(r), r, api.OK)
	}
}

func TestParseOfNoBytes(t *testing.T) {
	refuses(t, "nil", api.Truncated)
	refuses(t, "no bytes", api.Truncated, []byte{})
}

func TestParseOfEachBeginning(t *testing.T) {
	for _, r := range append(small(), edits(some(), ones(some()...)...)) {
		p := payloadOf(r)
		for end := range p {
			refuses(t, "cut at "+number(int64(end)), api.Truncated, p[:end])
		}
	}
}

func TestParseOfBytesBehind(t *testing.T) {
	for _, r := range rightRecords() {
		p := payloadOf(r)
		for _, behind := range [][]byte{{0}, {1}, {2}, {0x80}, {0xFF, 0xFF}, make([]byte, 9), p} {
			refuses(t, "bytes behind", api.Malformed, p, behind)
		}
		refuses(t, "a frame", agrees(t, "a frame", framed(p)), framed(p))
	}
}

// farNums: numbers above 2^62; among them such as are right once they are cut to fewer bits.
func farNums() []uint64 {
	return []uint64{1<<62 + 1, 1<<62 + 2, 1<<62 + 100, 1<<63 - 1, 1 << 63, 1<<63 + 1, 1<<63 + 3, 1<<63 + 100, 1<<63 + 1<<62, math.MaxUint64 - 1, math.MaxUint64}
}

// Of a policy's Num that is too far policy tells Range; of all others Malformed is told.
func TestParseOfFarNumsAtEachPlace(t *testing.T) {
	for _, r := range small() {
		for at, p := range piecesOf(r) {
			if p.kind == "Snap" || p.kind == "Cold" || p.kind == "Rules" {
				continue
			}
			for _, n := range farNums() {
				refuses(t, "a far "+p.kind, api.Malformed, changed(r, at, num(n)))
			}
		}
		front, behind := joined(piecesOf(r)[:6]), joined(piecesOf(r)[7:])
		for field := range 9 {
			for _, n := range farNums() {
				l := [9]uint64{1, 1, 1, 1, 1, 1, 1, 1, 100}
				l[field] = n
				b := slices.Clone(front)
				for _, n := range l {
					b = append(b, num(n)...)
				}
				refuses(t, "a far Num of the policy", api.Range, b, behind)
				refuses(t, "a far Num of the policy, and nothing behind", api.Range, b)
			}
		}
	}
}

// Numbers up to 2^62 read well, so that only Right may refuse them.
func TestParseOfNumsAtTheirEdges(t *testing.T) {
	for _, r := range small() {
		for at, p := range piecesOf(r) {
			if p.kind == "Snap" || p.kind == "Cold" || p.kind == "Rules" {
				continue
			}
			for _, n := range edgesOf(1) {
				agrees(t, p.kind+" "+number(n), changed(r, at, nums(n)))
			}
		}
	}
	r := edits(nil)
	for field, kind := range fields() {
		for _, n := range edgesOf(field) {
			numbers := numbersOf(r)
			numbers[field] = n
			want := rightAs(withNumbers(r, numbers))
			if n < 0 || n > topNum {
				want = api.Malformed
			}
			if want == api.OK {
				parses(t, kind+" "+number(n), payloadOf(withNumbers(r, numbers)), withNumbers(r, numbers), api.OK)
			} else {
				refuses(t, kind+" "+number(n), want, payloadOf(withNumbers(r, numbers)))
			}
		}
	}
}

// noNums: bytes with which no Num begins, whatever is behind them.
func noNums() [][]byte {
	ones := bytes.Repeat([]byte{0xFF}, 9)
	return [][]byte{
		long(0), long(1), long(127), long(128), long(topNum), {0x80, 0x80, 0},
		append(slices.Clone(ones), 2), append(slices.Clone(ones), 0), append(slices.Clone(ones), 0x81, 0), bytes.Repeat([]byte{0x80}, 12),
	}
}

func TestParseOfWhatIsNoNumAtEachPlace(t *testing.T) {
	for _, r := range small() {
		l := piecesOf(r)
		for at, p := range l {
			ahead := joined(l[:at])
			for _, wrong := range noNums() {
				refuses(t, "no "+p.kind, api.Malformed, changed(r, at, wrong))
				refuses(t, "no "+p.kind+", at the end", api.Malformed, ahead, wrong)
			}
			if p.kind == "Snap" || p.kind == "Cold" {
				continue
			}
			for _, cut := range [][]byte{{}, {0x80}, {0xFF, 0xFF}, bytes.Repeat([]byte{0xFF}, 9)} {
				refuses(t, "a cut "+p.kind, api.Truncated, ahead, cut)
			}
		}
	}
}

func TestParseOfBools(t *testing.T) {
	for _, r := range small() {
		l := piecesOf(r)
		for at, p := range l {
			if p.kind != "Snap" && p.kind != "Cold" {
				continue
			}
			for n := 2; n < 256; n++ {
				refuses(t, "no "+p.kind, api.Malformed, changed(r, at, []byte{byte(n)}))
				refuses(t, "no "+p.kind+", at the end", api.Malformed, joined(l[:at]), []byte{byte(n)})
			}
			for n := range byte(2) {
				agrees(t, p.kind, changed(r, at, []byte{n}))
			}
		}
	}
}

func TestParseOfColdAtEachTier(t *testing.T) {
	for tier := range 5 {
		for _, isCold := range []bool{false, true} {
			e := api.Entry{Part: api.Part{Tier: tier, Index: 4}, Seg: 1, Mark: 2, Rows: 3, Cold: isCold}
			if tier == 3 || tier > 0 && tier < 4 && !isCold {
				parses(t, "a right entry", payloadOf(edits(nil, e)), edits(nil, e), api.OK)
			} else {
				refuses(t, "a wrong entry", api.Malformed, payloadOf(edits(nil, e)))
			}
		}
	}
}

func TestParseOfCounts(t *testing.T) {
	for _, n := range []int64{0, 1, 127, 128, 999, 1000} {
		drops, puts := edits(hours(1, n)), edits(nil, ones(hours(1, n)...)...)
		parses(t, number(n)+" drops", payloadOf(drops), drops, api.OK)
		parses(t, number(n)+" puts", payloadOf(puts), puts, api.OK)
		both := edits(hours(2, n), ones(hours(1, n)...)...)
		parses(t, number(n)+" drops and puts", payloadOf(both), both, api.OK)
	}
	for _, n := range []int64{1001, 1002, 2000, 1 << 14} {
		refuses(t, number(n)+" drops", api.Malformed, payloadOf(edits(hours(1, n))))
		refuses(t, number(n)+" puts", api.Malformed, payloadOf(edits(nil, ones(hours(1, n)...)...)))
	}
	front := joined(piecesOf(edits(nil))[:7])
	for _, n := range append(farNums(), 1001, 1002, 1<<16, 1<<31, 1<<32, 1<<32+1, 1<<62) {
		refuses(t, "a Count of drops, and nothing behind", api.Malformed, front, num(n))
		refuses(t, "a Count of puts, and nothing behind", api.Malformed, front, num(0), num(n))
		refuses(t, "a Count of drops, and a wrong one of puts", api.Malformed, front, num(n), long(0))
	}
	for n := range uint64(1000) {
		refuses(t, "a Count of drops, and nothing behind", api.Truncated, front, num(n))
		refuses(t, "a Count of puts, and nothing behind", api.Truncated, front, num(0), num(n+1))
		refuses(t, "a Count of drops, and one less behind", api.Truncated, front, num(n+1), bytes.Repeat([]byte{1, 5}, int(n)))
		refuses(t, "a Count of puts, and one less behind", api.Truncated, front, num(0), num(n+1), bytes.Repeat([]byte{1, 5, 1, 0, 1, 0}, int(n)))
		refuses(t, "a Count of puts, and one more behind", api.Malformed, front, num(0), num(n), bytes.Repeat([]byte{1, 5, 1, 0, 1, 0}, int(n+1)))
	}
}

func TestParseOfTiersThatAreNone(t *testing.T) {
	for _, tier := range []uint64{0, 4, 5, 127, 128, 1 << 31, 1<<31 + 1, 1 << 32, 1<<32 + 1, 1<<32 + 2, 1<<32 + 3, 1<<33 + 1, 1 << 62, 1<<62 - 1} {
		for _, r := range small() {
			for at, p := range piecesOf(r) {
				if p.kind == "Tier" {
					refuses(t, "no Tier", api.Malformed, changed(r, at, num(tier)))
				}
			}
		}
	}
}

func TestParseOfPoliciesThatAreNotRight(t *testing.T) {
	for _, r := range small() {
		l := piecesOf(r)
		ahead, behind := joined(l[:6]), joined(l[7:])
		for _, p := range wrongRules() {
			b := rulesOf(p)
			refuses(t, "a wrong policy", api.Range, ahead, b, behind)
			for _, next := range [][]byte{nil, {0x80}, long(0), num(1001), {5}, {2, 2}, append(behind, 7), make([]byte, 40)} {
				refuses(t, "a wrong policy, and what is wrong behind it", api.Range, ahead, b, next)
			}
			for field := range 5 {
				far := piecesOf(r)
				far[1+field].bytes = num(topNum + 1)
				refuses(t, "a wrong policy, and a far Num ahead", api.Range, joined(far[:6]), b, behind)
				far[1+field].bytes = long(1)
				refuses(t, "a wrong policy, and no Num ahead", api.Malformed, joined(far[:6]), b, behind)
			}
			for end := range b {
				refuses(t, "a wrong policy that is cut", api.Truncated, ahead, b[:end])
			}
		}
		b := rulesOf(rules())
		for at := range 9 {
			cut := slices.Clone(b[:at])
			refuses(t, "a policy in which there is no Num", api.Malformed, ahead, cut, long(0), b[at:], behind)
		}
	}
}

func TestParseOfRecordsThatReadWellButAreNotRight(t *testing.T) {
	n := 0
	for i, r := range wrongRecords() {
		fault := agrees(t, "wrong record "+number(int64(i)), payloadOf(r))
		same(t, "whether it is right", fault == api.OK, false)
		if fault == rightAs(r) {
			n++
		}
	}
	same(t, "whether there are such ones", n > 100, true)
	for _, c := range []struct {
		what string
		r    Record
		want api.Fault
	}{
		{"Tick one above", withNumbers(edits(nil), [5]int64{0, topTick + 1, 0, 0, 1}), api.Range},
		{"Floor one above", withNumbers(edits(nil), [5]int64{0, 0, 0, topFloor + 1, 1}), api.Range},
		{"Next 0", withNumbers(edits(nil), [5]int64{}), api.Range},
		{"Next 0, and a wrong entry", withNumbers(edits(nil, api.Entry{}), [5]int64{}), api.Range},
		{"an hour too far", edits(hours(lastHour+1, 1)), api.Malformed},
		{"an entry of no rows", edits(nil, api.Entry{Part: hourPart(5), Seg: 1}), api.Malformed},
		{"an hour that is Cold", edits(nil, api.Entry{Part: hourPart(5), Seg: 1, Rows: 1, Cold: true}), api.Malformed},
	} {
		refuses(t, c.what, c.want, payloadOf(c.r))
	}
}

// What is wrong with the bytes, and the policy, is told ahead of what is left or too far, and that ahead of what is not right.
func TestParseTellsTheFirstOfTwoFaults(t *testing.T) {
	notRight := withNumbers(edits(hours(5, 1), one(hourPart(5))), [5]int64{1, topTick + 1, 1, 1, 1})
	refuses(t, "not right, and bytes behind", api.Malformed, payloadOf(notRight), []byte{0})
	refuses(t, "not right, and nothing behind", api.Range, payloadOf(notRight))
	for at, p := range piecesOf(notRight) {
		if p.kind != "Snap" && p.kind != "Cold" && p.kind != "Rules" {
			refuses(t, "not right, and a far "+p.kind, api.Malformed, changed(notRight, at, num(topNum+1)))
		}
		refuses(t, "not right, and cut", api.Truncated, joined(piecesOf(notRight)[:at]))
	}
	far := withNumbers(notRight, [5]int64{topNum + 1, 1, 1, 1, 1})
	p := payloadOf(far)
	refuses(t, "far", api.Malformed, p)
	for end := 1; end < len(p); end++ {
		refuses(t, "far, and cut", api.Truncated, p[:end])
	}
	wrong := edits(hours(5, 1), one(hourPart(5)))
	wrong.Rules.Queue = 0
	refuses(t, "a wrong policy, and bytes behind", api.Range, payloadOf(wrong), []byte{0})
	refuses(t, "no Snap, and a wrong policy", api.Malformed, []byte{2}, payloadOf(wrong)[1:])
	refuses(t, "no Bool behind a far Num", api.Malformed, payloadOf(withNumbers(edits(nil, one(hourPart(5))), [5]int64{topNum + 1, 1, 1, 1, 1})), []byte{2})
}

// TestParseOfEachByteChanged: each byte of payloads changed, taken out, and doubled.
func TestParseOfEachByteChanged(t *testing.T) {
	for _, r := range small() {
		p := payloadOf(r)
		for at := range p {
			for n := range 256 {
				b := slices.Clone(p)
				b[at] = byte(n)
				agrees(t, "a byte changed", b)
			}
			agrees(t, "a byte taken out", slices.Delete(slices.Clone(p), at, at+1))
			agrees(t, "a byte doubled", slices.Insert(slices.Clone(p), at, p[at]))
		}
	}
}

// TestParseOfEachTwoPiecesChanged: each two pieces, each by what is wrong in some way.
func TestParseOfEachTwoPiecesChanged(t *testing.T) {
	wrong := [][]byte{{}, {0}, {2}, {5}, {0x80}, long(1), num(1001), num(topNum), num(topNum + 1), num(1<<63 + 1)}
	for _, r := range small()[1:4] {
		l := piecesOf(r)
		for first := range l {
			for second := range first {
				for way := range len(wrong) * len(wrong) {
					b := slices.Clone(l)
					b[first].bytes, b[second].bytes = wrong[way/len(wrong)], wrong[way%len(wrong)]
					agrees(t, "two pieces", joined(b))
				}
			}
		}
	}
}

// TestParseOfPayloadsWithoutAPattern: whatever comes behind what begins well.
func TestParseOfPayloadsWithoutAPattern(t *testing.T) {
	throw := stir(21)
	right := 0
	for range 60000 {
		l := piecesOf(edits(hours(int64(throw(9)), int64(throw(3))), ones(hours(int64(throw(300)), int64(throw(3)))...)...))
		b := joined(l[:throw(len(l)+1)])
		for range throw(8) * throw(3) {
			b = append(b, byte(throw(256)>>throw(8)))
		}
		for range throw(3) * throw(2) * min(1, len(b)) {
			b[throw(len(b))] = byte(throw(256) >> throw(8))
		}
		if agrees(t, "without a pattern", b) == api.OK {
			right++
		}
	}
	same(t, "whether some were right", right > 100, true)
}

func TestParseKeepsNothing(t *testing.T) {
	r := edits(some(), ones(some()...)...)
	p := payloadOf(r)
	first, _ := Parse(p)
	second, _ := Parse(p)
	for i := range p {
		p[i] = 'z'
	}
	sameRecord(t, "Parse, and its bytes changed", first, r)
	drops, puts := first.Edit.Drop, first.Edit.Put
	for i := range drops[:cap(drops)] {
		drops[:cap(drops)][i] = hourPart(-77)
	}
	for i := range puts[:cap(puts)] {
		puts[:cap(puts)][i] = one(hourPart(-77))
	}
	sameRecord(t, "Parse, and an earlier answer changed", second, r)
	parses(t, "again", payloadOf(r), r, api.OK)
}
