package manifest

import (
	"bytes"
	"cmp"
	"encoding/binary"
	"hash/crc32"
	"math"
	"slices"
	"strconv"
	"testing"
	"time"

	"ossuary/api"
	"ossuary/catalog"
)

const (
	least    = math.MinInt64
	greatest = math.MaxInt64
	topNum   = 4611686018427387904 // 2^62
	topTick  = 1006633020          // 60 * (2^24 + 1)
	topFloor = 16777217            // 2^24 + 1

	lastHour  = 16777216 // MaxHour: December 8 of 3883, 16 o'clock
	lastDay   = 699050   // from hour 16777200 on, below hour 16777224
	lastMonth = 22967    // from hour 16777032 on, below hour 16777776
)

// same fails the test where got is not what the chapter says.
func same[T comparable](t *testing.T, what string, got, want T) {
	t.Helper()
	if got != want {
		t.Errorf("%s: %v, not %v", what, got, want)
	}
}

// tells fails the test where a list is not what the chapter says.
func tells[T comparable](t *testing.T, what string, got []T, want ...T) {
	t.Helper()
	if !slices.Equal(got, want) {
		t.Errorf("%s: %v, not %v", what, got, want)
	}
}

// sameRecord fails the test where got is another record; a list without an element may be nil or empty.
func sameRecord(t *testing.T, what string, got, want Record) {
	t.Helper()
	same(t, what+": Snap", got.Snap, want.Snap)
	same(t, what+": numbers", numbersOf(got), numbersOf(want))
	same(t, what+": Rules", got.Rules, want.Rules)
	tells(t, what+": Drop", got.Edit.Drop, want.Edit.Drop...)
	tells(t, what+": Put", got.Edit.Put, want.Edit.Put...)
}

func numbersOf(r Record) [5]int64 {
	return [5]int64{r.Seq, r.Tick, r.Budget, r.Floor, r.Next}
}

// withNumbers: r, but with these numbers.
func withNumbers(r Record, n [5]int64) Record {
	r.Seq, r.Tick, r.Budget, r.Floor, r.Next = n[0], n[1], n[2], n[3], n[4]
	return r
}

func hourPart(i int64) api.Part  { return api.Part{Tier: 1, Index: i} }
func dayPart(i int64) api.Part   { return api.Part{Tier: 2, Index: i} }
func monthPart(i int64) api.Part { return api.Part{Tier: 3, Index: i} }

func name(p api.Part) string {
	return "tier " + strconv.Itoa(p.Tier) + ", " + strconv.FormatInt(p.Index, 10)
}

func number(n int64) string {
	return strconv.FormatInt(n, 10)
}

// one: an entry of p, whose numbers are no other partition's here.
func one(p api.Part) api.Entry {
	return api.Entry{Part: p, Seg: 4*p.Index + int64(p.Tier), Mark: p.Index + 100, Rows: 40 + int64(p.Tier)}
}

// ones: entries of these partitions.
func ones(parts ...api.Part) []api.Entry {
	var l []api.Entry
	for _, p := range parts {
		l = append(l, one(p))
	}
	return l
}

// cold: an entry of a month, in the store of objects.
func cold(month int64) api.Entry {
	e := one(monthPart(month))
	e.Cold = true
	return e
}

// hours: the partitions of n hours, from the hour from on.
func hours(from, n int64) []api.Part {
	var l []api.Part
	for i := range n {
		l = append(l, hourPart(from+i))
	}
	return l
}

// some: partitions of each tier, of which no two meet, by their hours.
func some() []api.Part {
	return []api.Part{hourPart(0), hourPart(5), hourPart(6), dayPart(1), hourPart(72), dayPart(30), monthPart(1), dayPart(59), hourPart(1440), monthPart(25), hourPart(lastHour - 17), dayPart(lastDay)}
}

// rules: a policy that is right, each of whose fields has another number.
func rules() api.Policy {
	return api.Policy{Retain: 301, SealLag: 2, DayLag: 3, MonthLag: 24, ColdLag: 48, Base: 5, Cap: 60, Queue: 16, Wal: 4000}
}

// record: a right one, each of whose numbers is another one.
func record(snap bool, drop []api.Part, put []api.Entry) Record {
	return Record{snap, 11, 12, 13, 14, 15, rules(), catalog.Edit{Drop: drop, Put: put}}
}

// snap and edits: records that begin anew, and that go on.
func snap(put ...api.Entry) Record {
	return record(true, nil, put)
}

func edits(drop []api.Part, put ...api.Entry) Record {
	return record(false, drop, put)
}

// numbered: r, but with numbers that no other number of a row of records has.
func numbered(r Record, i int64) Record {
	r.Rules.Retain = 1000 + i
	return withNumbers(r, [5]int64{10 * i, 10*i + 1, 10*i + 2, 10*i + 3, 10*i + 4})
}

// stir hands out numbers from 0 to below, without a pattern, the same ones in each run.
func stir(seed uint64) func(below int) int {
	return func(below int) int {
		seed = seed*6364136223846793005 + 1442695040888963407
		return int(seed>>33) % below
	}
}

// --- Bytes, made another way than by the program.

func num(n uint64) []byte {
	return binary.AppendUvarint(nil, n)
}

func nums(l ...int64) []byte {
	var b []byte
	for _, n := range l {
		b = binary.AppendUvarint(b, uint64(n))
	}
	return b
}

// long: a number in one byte more than it needs.
func long(n uint64) []byte {
	b := num(n)
	b[len(b)-1] |= 0x80
	return append(b, 0)
}

func flag(is bool) []byte {
	if is {
		return []byte{1}
	}
	return []byte{0}
}

func rulesOf(p api.Policy) []byte {
	return nums(p.Retain, p.SealLag, p.DayLag, p.MonthLag, p.ColdLag, p.Base, p.Cap, int64(p.Queue), p.Wal)
}

// piece: bytes of a payload: a Num, a Bool, or the policy.
type piece struct {
	kind  string
	bytes []byte
}

// piecesOf: a record's payload by the chapter's words, right or not.
func piecesOf(r Record) []piece {
	l := []piece{{"Snap", flag(r.Snap)}}
	add := func(kind string, n int64) { l = append(l, piece{kind, nums(n)}) }
	for i, n := range numbersOf(r) {
		add([]string{"Seq", "Tick", "Budget", "Floor", "Next"}[i], n)
	}
	l = append(l, piece{"Rules", rulesOf(r.Rules)})
	add("Drops", int64(len(r.Edit.Drop)))
	for _, p := range r.Edit.Drop {
		add("Tier", int64(p.Tier))
		add("Index", p.Index)
	}
	add("Puts", int64(len(r.Edit.Put)))
	for _, e := range r.Edit.Put {
		add("Tier", int64(e.Part.Tier))
		add("Index", e.Part.Index)
		add("Seg", e.Seg)
		add("Mark", e.Mark)
		add("Rows", e.Rows)
		l = append(l, piece{"Cold", flag(e.Cold)})
	}
	return l
}

func joined(l []piece) []byte {
	var b []byte
	for _, p := range l {
		b = append(b, p.bytes...)
	}
	return b
}

func payloadOf(r Record) []byte {
	return joined(piecesOf(r))
}

// framed: p's frame.
func framed(p []byte) []byte {
	b := append(num(uint64(len(p))), p...)
	return binary.LittleEndian.AppendUint32(b, crc32.ChecksumIEEE(p))
}

// bytesOf: a record's bytes by the chapter's words, right or not.
func bytesOf(r Record) []byte {
	return framed(payloadOf(r))
}

// --- The chapter's words, reckoned another way: entries in a list, each asked by itself, by the library's calendar.

func rightPartAs(p api.Part) bool {
	return p.Tier >= 1 && p.Tier <= 3 && p.Index >= 0 && p.Index <= [4]int64{1: lastHour, 2: lastDay, 3: lastMonth}[p.Tier]
}

func rightEntryAs(e api.Entry) bool {
	in := func(n int64) bool { return 0 < n && n <= topNum }
	return rightPartAs(e.Part) && in(e.Seg) && in(e.Rows) && (e.Mark == 0 || in(e.Mark)) && (e.Part.Tier == 3 || !e.Cold)
}

func spanAs(p api.Part) (int64, int64) {
	first := func(month int64) int64 {
		return time.Date(1970, time.Month(1+month), 1, 0, 0, 0, 0, time.UTC).Unix() / 3600
	}
	switch p.Tier {
	case 1:
		return p.Index, p.Index + 1
	case 2:
		return p.Index * 24, p.Index*24 + 24
	}
	return first(p.Index), first(p.Index + 1)
}

func meetsAs(a, b api.Part) bool {
	first, end := spanAs(a)
	from, to := spanAs(b)
	return max(first, from) < min(end, to)
}

func rightRulesAs(p api.Policy) bool {
	in := func(low, high int64, l ...int64) bool { return slices.Min(l) >= low && slices.Max(l) <= high }
	return in(0, 1048576, p.SealLag, p.DayLag, p.MonthLag, p.ColdLag) && in(1, 1048576, p.Retain, p.Base, p.Cap) && in(1, 64, int64(p.Queue)) && in(100, 1048576, p.Wal)
}

// rightAs: a record's fault.
func rightAs(r Record) api.Fault {
	for i, n := range numbersOf(r) {
		low := [5]int64{4: 1}[i]
		high := [5]int64{topNum, topTick, topNum, topFloor, topNum}[i]
		if n < low || n > high {
			return api.Range
		}
	}
	switch {
	case !rightRulesAs(r.Rules):
		return api.Range
	case max(len(r.Edit.Drop), len(r.Edit.Put)) > 1000:
		return api.Full
	}
	for _, p := range r.Edit.Drop {
		if !rightPartAs(p) {
			return api.Malformed
		}
	}
	for _, e := range r.Edit.Put {
		if !rightEntryAs(e) {
			return api.Malformed
		}
	}
	return api.OK
}

// model: a state; its entries in no order.
type model struct {
	numbers [5]int64
	rules   api.Policy
	entries []api.Entry
}

// step: what a model is behind a record, and the record's fault.
func (m model) step(r Record) (model, api.Fault) {
	if fault := rightAs(r); fault != api.OK {
		return m, fault
	}
	var l []api.Entry
	if !r.Snap {
		l = slices.Clone(m.entries)
	}
	for _, p := range r.Edit.Drop {
		i := slices.IndexFunc(l, func(e api.Entry) bool { return e.Part == p })
		if i < 0 {
			return m, api.Unknown
		}
		l = slices.Delete(l, i, i+1)
	}
	for _, put := range r.Edit.Put {
		if slices.ContainsFunc(l, func(e api.Entry) bool { return meetsAs(e.Part, put.Part) }) {
			return m, api.Twice
		}
		l = append(l, put)
	}
	return model{numbersOf(r), r.Rules, l}, api.OK
}

// rising: a model's entries by their hours.
func (m model) rising() []api.Entry {
	l := slices.Clone(m.entries)
	slices.SortFunc(l, func(a, b api.Entry) int {
		first, _ := spanAs(a.Part)
		second, _ := spanAs(b.Part)
		return cmp.Compare(first, second)
	})
	return l
}

// replay: what records with which data begins come to, how many bytes they have, and what is wrong with the first of them.
func replayAs(l []Record) (model, int, api.Fault) {
	var m model
	n := 0
	for i, r := range l {
		if i == 0 && rightAs(r) == api.OK && !r.Snap {
			return model{}, 0, api.Malformed
		}
		next, fault := m.step(r)
		if fault != api.OK && i == 0 {
			return model{}, 0, fault
		}
		if fault != api.OK {
			break
		}
		m, n = next, n+len(bytesOf(r))
	}
	return m, n, api.OK
}

// --- States

// holds fails the test where a state is another one than the model.
func holds(t *testing.T, what string, s *State, m model) {
	t.Helper()
	if s == nil || s.Parts == nil {
		t.Fatalf("%s: no state, or one without Parts", what)
	}
	same(t, what+": numbers", [5]int64{s.Seq, s.Tick, s.Budget, s.Floor, s.Next}, m.numbers)
	same(t, what+": Rules", s.Rules, m.rules)
	tells(t, what+": Parts", entriesOf(s), m.rising()...)
	same(t, what+": how many Parts", s.Parts.Len(), len(m.entries))
}

func entriesOf(s *State) []api.Entry {
	return slices.Collect(s.Parts.All())
}

// empty: a state without entries, all of whose numbers are 0.
func empty() *State {
	return &State{Parts: catalog.New()}
}

// stateOf: a state that has these entries, and numbers that no record here has.
func stateOf(t *testing.T, entries ...api.Entry) (*State, model) {
	t.Helper()
	s := &State{71, 72, 73, 74, 75, rules(), catalog.New()}
	s.Rules.Cap = 76
	same(t, "Apply ahead", s.Parts.Apply(catalog.Edit{Put: entries}), api.OK)
	return s, model{[5]int64{71, 72, 73, 74, 75}, s.Rules, entries}
}

// --- What is handed in, with spare room behind it, and a check that neither changed.

func roomyBytes(t *testing.T, b []byte) ([]byte, func(what string)) {
	whole := append(slices.Clone(b), "spare"...)
	kept := slices.Clone(whole)
	return whole[:len(b)], func(what string) {
		t.Helper()
		if !bytes.Equal(whole, kept) {
			t.Errorf("%s: what was handed in: % X, not % X", what, whole, kept)
		}
	}
}

func roomy(t *testing.T, r Record) (Record, func(what string)) {
	drop := append(slices.Clone(r.Edit.Drop), hourPart(-7), hourPart(-8), hourPart(-9))
	put := append(slices.Clone(r.Edit.Put), one(hourPart(-7)), one(hourPart(-8)), one(hourPart(-9)))
	keptDrop, keptPut := slices.Clone(drop), slices.Clone(put)
	r.Edit.Drop, r.Edit.Put = drop[:len(r.Edit.Drop)], put[:len(r.Edit.Put)]
	return r, func(what string) {
		t.Helper()
		tells(t, what+": Drop that was handed in", drop, keptDrop...)
		tells(t, what+": Put that was handed in", put, keptPut...)
	}
}

// --- Wrong and edgy things

// edgesOf: numbers around what a field may have, and far from it.
func edgesOf(field int) []int64 {
	l := []int64{least, least + 1, -topNum, -topTick, -1 << 32, -2, -1, 0, 1, 2, 3, 59, 60, 1 << 20, 1<<24 - 1, 1 << 24, 1<<24 + 1, 1<<24 + 2, 1 << 31, 1 << 32, 1<<32 + 1, 1 << 60, topNum - 1, topNum, topNum + 1, topNum + 2, greatest - 1, greatest}
	if field == 1 {
		l = append(l, 60<<24-1, 60<<24, 60<<24+1, 60<<24+2, topTick-1, topTick, topTick+1, topTick+60)
	}
	return l
}

// fields: the numbers' names, in their order.
func fields() []string {
	return []string{"Seq", "Tick", "Budget", "Floor", "Next"}
}

// wrongNumbers: numbers that a right record has, but of one.
func wrongNumbers() [][5]int64 {
	var l [][5]int64
	for field := range fields() {
		for _, n := range edgesOf(field) {
			numbers := [5]int64{11, 12, 13, 14, 15}
			numbers[field] = n
			if rightAs(withNumbers(record(true, nil, nil), numbers)) != api.OK {
				l = append(l, numbers)
			}
		}
	}
	return l
}

// wrongRules: policies that are not right, each in one field, at the ends of what it may have, and far from them.
func wrongRules() []api.Policy {
	var l []api.Policy
	wrong := func(set func(p *api.Policy, n int64), numbers ...int64) {
		for _, n := range append(numbers, least, least+1, -1, 1<<20+1, 1<<20+2, 1<<62, greatest) {
			p := rules()
			set(&p, n)
			l = append(l, p)
		}
	}
	wrong(func(p *api.Policy, n int64) { p.Retain = n }, 0)
	wrong(func(p *api.Policy, n int64) { p.SealLag = n })
	wrong(func(p *api.Policy, n int64) { p.DayLag = n })
	wrong(func(p *api.Policy, n int64) { p.MonthLag = n })
	wrong(func(p *api.Policy, n int64) { p.ColdLag = n })
	wrong(func(p *api.Policy, n int64) { p.Base = n }, 0)
	wrong(func(p *api.Policy, n int64) { p.Cap = n }, 0)
	wrong(func(p *api.Policy, n int64) { p.Queue = int(n) }, 0, 65, 100)
	wrong(func(p *api.Policy, n int64) { p.Wal = n }, 0, 1, 98, 99)
	return append(l, api.Policy{})
}

// edgeRules: policies that are right, each field at both ends of what it may have.
func edgeRules() []api.Policy {
	high := api.Policy{Retain: 1 << 20, SealLag: 1 << 20, DayLag: 1 << 20, MonthLag: 1 << 20, ColdLag: 1 << 20, Base: 1 << 20, Cap: 1 << 20, Queue: 64, Wal: 1 << 20}
	low := api.Policy{Retain: 1, Base: 1, Cap: 1, Queue: 1, Wal: 100}
	l := []api.Policy{low, high}
	for _, p := range []api.Policy{low, high} {
		for field := range 9 {
			other := p
			switch field {
			case 0:
				other.Retain = high.Retain + low.Retain - p.Retain
			case 1:
				other.SealLag = high.SealLag - p.SealLag
			case 2:
				other.DayLag = high.DayLag - p.DayLag
			case 3:
				other.MonthLag = high.MonthLag - p.MonthLag
			case 4:
				other.ColdLag = high.ColdLag - p.ColdLag
			case 5:
				other.Base = high.Base + low.Base - p.Base
			case 6:
				other.Cap = high.Cap + low.Cap - p.Cap
			case 7:
				other.Queue = high.Queue + low.Queue - p.Queue
			case 8:
				other.Wal = high.Wal + low.Wal - p.Wal
			}
			l = append(l, other)
		}
	}
	return l
}

// wrongParts: partitions that are not right.
func wrongParts() []api.Part {
	l := []api.Part{{}, {Index: 5}, {Tier: 4}, {Tier: 4, Index: 5}, {Tier: -1}, {Tier: -1, Index: 1}, {Tier: 1<<32 + 1}, {Tier: math.MinInt}, {Tier: math.MaxInt}, {Tier: math.MinInt + 1, Index: 5}}
	for tier, last := range [4]int64{1: lastHour, 2: lastDay, 3: lastMonth} {
		for _, i := range []int64{-1, -2, last + 1, last + 2, least, least + 1, greatest - 1, greatest, 1 << 32, 1<<32 + 5, -1 << 32} {
			if tier > 0 {
				l = append(l, api.Part{Tier: tier, Index: i})
			}
		}
	}
	return l
}

// edgeParts: the first and the last partition of each tier.
func edgeParts() []api.Part {
	return []api.Part{hourPart(0), hourPart(lastHour), dayPart(0), dayPart(lastDay), monthPart(0), monthPart(lastMonth)}
}

// wrongEntries: entries that are not right, each in one thing.
func wrongEntries() []api.Entry {
	var l []api.Entry
	wrong := func(p api.Part, set func(e *api.Entry)) {
		e := one(p)
		set(&e)
		l = append(l, e)
	}
	for _, p := range []api.Part{hourPart(7), dayPart(7), monthPart(7)} {
		for _, n := range []int64{-1, -2, least, -topNum, topNum + 1, topNum + 2, greatest} {
			wrong(p, func(e *api.Entry) { e.Seg = n })
			wrong(p, func(e *api.Entry) { e.Mark = n })
			wrong(p, func(e *api.Entry) { e.Rows = n })
		}
		wrong(p, func(e *api.Entry) { e.Seg = 0 })
		wrong(p, func(e *api.Entry) { e.Rows = 0 })
	}
	wrong(hourPart(7), func(e *api.Entry) { e.Cold = true })
	wrong(dayPart(7), func(e *api.Entry) { e.Cold = true })
	for _, p := range wrongParts() {
		l = append(l, api.Entry{Part: p, Seg: 1, Rows: 1})
	}
	return l
}

// edgeEntries: entries that are right, each number at both ends.
func edgeEntries() []api.Entry {
	return []api.Entry{
		{Part: hourPart(1), Seg: 1, Mark: 0, Rows: 1}, {Part: hourPart(2), Seg: topNum, Mark: 0, Rows: 1}, {Part: hourPart(3), Seg: 1, Mark: topNum, Rows: 1},
		{Part: hourPart(4), Seg: 1, Mark: 0, Rows: topNum}, {Part: dayPart(1), Seg: topNum, Mark: topNum, Rows: topNum},
		{Part: monthPart(1), Seg: 1, Mark: 0, Rows: 1, Cold: true}, {Part: monthPart(lastMonth), Seg: topNum, Mark: topNum, Rows: topNum, Cold: true},
	}
}
