package manifest

import (
	"bytes"
	"slices"
	"testing"

	"ossuary/api"
	"ossuary/catalog"
	"ossuary/frame"
	"ossuary/policy"
)

// encodes: what Encode answers, and that it changes nothing.
func encodes(t *testing.T, what string, r Record, want []byte, fault api.Fault) {
	t.Helper()
	r, unchanged := roomy(t, r)
	b, f := Encode(r)
	same(t, what+": Encode's fault", f, fault)
	if !bytes.Equal(b, want) {
		t.Errorf("%s: % X, not % X", what, b, want)
	}
	unchanged(what)
}

// rightRecords: records of many kinds that are right.
func rightRecords() []Record {
	l := []Record{
		snap(), edits(nil), snap(ones(some()...)...), edits(some()), edits(some(), ones(some()...)...), edits(edgeParts(), ones(edgeParts()...)...),
		snap(edgeEntries()...), edits(hours(0, 3), one(dayPart(0))), edits([]api.Part{monthPart(3)}, cold(3)), snap(cold(0), one(monthPart(1))),
		edits(hours(0, 1000), ones(hours(lastHour-999, 1000)...)...), snap(ones(hours(0, 127)...)...), snap(ones(hours(0, 128)...)...), edits(hours(0, 127)), edits(hours(0, 128)),
		edits([]api.Part{hourPart(5), hourPart(5)}, ones(dayPart(1), hourPart(24))...), record(true, hours(3, 2), ones(hours(3, 2)...)),
	}
	for field := range fields() {
		for _, n := range edgesOf(field) {
			numbers := [5]int64{11, 12, 13, 14, 15}
			numbers[field] = n
			if r := withNumbers(edits(nil, one(hourPart(5))), numbers); rightAs(r) == api.OK {
				l = append(l, r)
			}
		}
	}
	for _, p := range append(edgeRules(), policy.Plain()) {
		r := snap(one(hourPart(5)))
		r.Rules = p
		l = append(l, r)
	}
	return append(l, withNumbers(snap(), [5]int64{4: 1}), withNumbers(edits(nil), [5]int64{topNum, topTick, topNum, topFloor, topNum}))
}

// --- P2101: Encode

func TestExample(t *testing.T) {
	b, fault := Encode(Record{Snap: true, Next: 1, Rules: policy.Plain()})
	same(t, "Encode's fault", fault, api.OK)
	p, n, fault := frame.Take(b)
	same(t, "Take's fault", fault, api.OK)
	same(t, "bytes of the frame", n, len(b))
	same(t, "the first byte", p[0], 1)
	want := []byte{1, 0, 0, 0, 0, 1, 0xD0, 0x0F, 1, 2, 24, 48, 2, 60, 16, 0xA0, 0x1F, 0, 0}
	if !bytes.Equal(p, want) {
		t.Errorf("the payload: % X, not % X", p, want)
	}
}

func TestEncodeByHand(t *testing.T) {
	plain := []byte{0xD0, 0x0F, 1, 2, 24, 48, 2, 60, 16, 0xA0, 0x1F}
	edit := catalog.Edit{
		Drop: []api.Part{{Tier: 1, Index: 300}, {Tier: 2, Index: 5}},
		Put:  []api.Entry{{Part: api.Part{Tier: 3, Index: 6}, Seg: 7, Mark: 8, Rows: 9, Cold: true}, {Part: api.Part{Tier: 1, Index: 0}, Seg: 1, Mark: 0, Rows: 128}},
	}
	r := Record{Seq: 2, Tick: 3, Budget: 300, Floor: 4, Next: 5, Rules: policy.Plain(), Edit: edit}
	behind := []byte{2, 1, 0xAC, 2, 2, 5, 2, 3, 6, 7, 8, 9, 1, 1, 0, 1, 0, 0x80, 1, 0}
	want := framed(slices.Concat([]byte{0, 2, 3, 0xAC, 2, 4, 5}, plain, behind))
	encodes(t, "an edit", r, want, api.OK)
	r.Snap = true
	want = framed(slices.Concat([]byte{1, 2, 3, 0xAC, 2, 4, 5}, plain, behind))
	encodes(t, "that, with Snap", r, want, api.OK)
}

func TestEncodeIsOneWholeFrame(t *testing.T) {
	for i, r := range rightRecords() {
		what := "record " + number(int64(i))
		encodes(t, what, r, bytesOf(r), api.OK)
		b, _ := Encode(r)
		p, n, fault := frame.Take(b)
		same(t, what+": Take's fault", fault, api.OK)
		same(t, what+": bytes of the frame", n, len(b))
		if !bytes.Equal(p, payloadOf(r)) {
			t.Errorf("%s: its payload: % X", what, p)
		}
		same(t, what+": Whole", frame.Whole(b), len(b))
		r.Snap = !r.Snap
		encodes(t, what+", with the other Snap", r, bytesOf(r), api.OK)
	}
}

// wrongRecords: records that are not right.
func wrongRecords() []Record {
	l := []Record{{}, {Next: 1}, {Snap: true, Next: 1}, {Rules: rules()}, edits(hours(0, 1001)), snap(ones(hours(0, 1001)...)...)}
	for _, numbers := range wrongNumbers() {
		l = append(l, withNumbers(edits(hours(5, 1)), numbers))
	}
	for _, p := range wrongRules() {
		r := snap(one(hourPart(5)))
		r.Rules = p
		l = append(l, r)
	}
	for _, p := range wrongParts() {
		l = append(l, edits([]api.Part{p}), edits([]api.Part{hourPart(0), p}, one(hourPart(3))))
	}
	for _, e := range wrongEntries() {
		l = append(l, edits(nil, e), snap(one(hourPart(8)), e))
	}
	return l
}

func TestEncodeOfRecordsThatAreNotRight(t *testing.T) {
	for i, r := range wrongRecords() {
		encodes(t, "wrong record "+number(int64(i)), r, nil, rightAs(r))
		same(t, "whether it is right", rightAs(r) == api.OK, false)
	}
	r := edits(hours(0, 1001), api.Entry{})
	encodes(t, "too many, and a wrong one", r, nil, api.Full)
	r.Rules.Queue = 0
	encodes(t, "that, and a wrong policy", r, nil, api.Range)
}

func TestEncodeAnswersNewBytes(t *testing.T) {
	r := edits(some(), ones(some()...)...)
	want := bytesOf(r)
	first, _ := Encode(r)
	second, _ := Encode(r)
	r.Edit.Drop[0], r.Edit.Put[0] = hourPart(77), one(hourPart(77))
	for i := range first[:cap(first)] {
		first[:cap(first)][i] = 0xEE
	}
	if !bytes.Equal(second, want) {
		t.Errorf("behind changes: % X, not % X", second, want)
	}
}
