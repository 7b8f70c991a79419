package cold

import (
	"slices"
	"strconv"
	"strings"
	"testing"

	"ossuary/api"
)

// keeper: what a store can do.
type keeper interface {
	Fail(l []bool)
	Put(name string, b []byte) api.Fault
	Get(name string) ([]byte, api.Fault)
	Delete(name string) api.Fault
	Names() []string
	Has(name string) bool
	Waits() int
	Bytes() int64
}

// model: a store by the chapter's words: all that was ever put, told last by the last line of a name; all turns that ever came to wait, and how many are taken.
type model struct {
	lines []line
	turns []bool
	taken int
}

// line: a name had these bytes from then on, or none.
type line struct {
	name, bytes string
	gone        bool
}

// last: what is told of a name last.
func (m *model) last(name string) line {
	for _, l := range slices.Backward(m.lines) {
		if l.name == name {
			return l
		}
	}
	return line{name, "", true}
}

func (m *model) Fail(l []bool) {
	for _, turn := range l {
		if m.Waits() < 1000 {
			m.turns = append(m.turns, turn)
		}
	}
}

// asks: the fault of a call of that name, if it has one whatever it is to do.
func (m *model) asks(name string) api.Fault {
	if name == "" || len(name) > 40 {
		return api.Range
	}
	if m.taken == len(m.turns) {
		return api.OK
	}
	m.taken++
	if m.turns[m.taken-1] {
		return api.Away
	}
	return api.OK
}

func (m *model) Put(name string, b []byte) api.Fault {
	fault := m.asks(name)
	if fault == api.OK && len(b) > 1<<22 {
		fault = api.Full
	}
	if fault == api.OK {
		m.lines = append(m.lines, line{name, string(b), false})
	}
	return fault
}

func (m *model) Get(name string) ([]byte, api.Fault) {
	fault := m.asks(name)
	if fault == api.OK && m.last(name).gone {
		fault = api.Unknown
	}
	if fault != api.OK {
		return nil, fault
	}
	return []byte(m.last(name).bytes), api.OK
}

func (m *model) Delete(name string) api.Fault {
	fault := m.asks(name)
	if fault == api.OK && m.last(name).gone {
		fault = api.Unknown
	}
	if fault == api.OK {
		m.lines = append(m.lines, line{name, "", true})
	}
	return fault
}

func (m *model) Has(name string) bool {
	return !m.last(name).gone
}

func (m *model) Names() []string {
	var l []string
	for _, x := range m.lines {
		if m.Has(x.name) {
			l = append(l, x.name)
		}
	}
	slices.Sort(l)
	return slices.Compact(l)
}

func (m *model) Waits() int {
	return len(m.turns) - m.taken
}

func (m *model) Bytes() int64 {
	var n int64
	for _, name := range m.Names() {
		n += int64(len(m.last(name).bytes))
	}
	return n
}

// alike fails the test where the store's looks don't tell what the model's do, of these names.
func alike(t *testing.T, s, m keeper, names []string) {
	t.Helper()
	tells(t, "Names", s.Names(), m.Names()...)
	same(t, "Bytes", s.Bytes(), m.Bytes())
	same(t, "Waits", s.Waits(), m.Waits())
	for _, name := range names {
		same(t, "Has", s.Has(name), m.Has(name))
	}
}

// sameObjects fails the test where Get of these names doesn't answer what the model answers.
func sameObjects(t *testing.T, s, m keeper, names []string) {
	t.Helper()
	for _, name := range names {
		b, fault := s.Get(name)
		want, wanted := m.Get(name)
		same(t, "Get", string(b), string(want))
		same(t, "Get: its fault", fault, wanted)
	}
}

// call: one of a keeper, with its turn, by which its bytes are told apart; what it answers, as text.
type call struct {
	what string
	do   func(s keeper, turn int) string
}

func told(fault api.Fault) string {
	return strconv.Itoa(int(fault))
}

// text: n bytes of a turn.
func text(turn, n int) []byte {
	return []byte(strings.Repeat(string(rune('A'+turn%26)), n))
}

// calls: of two names, and of turns.
func calls() []call {
	var l []call
	for _, name := range []string{"a", "b"} {
		l = append(l,
			call{"Put " + name, func(s keeper, turn int) string { return told(s.Put(name, text(turn, turn+1))) }},
			call{"Put nothing " + name, func(s keeper, _ int) string { return told(s.Put(name, nil)) }},
			call{"Delete " + name, func(s keeper, _ int) string { return told(s.Delete(name)) }},
			call{"Get " + name, func(s keeper, _ int) string {
				b, fault := s.Get(name)
				return told(fault) + string(b)
			}})
	}
	for _, turns := range [][]bool{{false}, {true}, {true, false}, {false, true}} {
		l = append(l, call{"Fail", func(s keeper, _ int) string {
			s.Fail(turns)
			return ""
		}})
	}
	return append(l, call{"Put without a name", func(s keeper, _ int) string { return told(s.Put("", nil)) }})
}

// TestEachWayOfFewCalls: each row of four calls, with the same one of a model.
func TestEachWayOfFewCalls(t *testing.T) {
	calls := calls()
	names := []string{"a", "b", ""}
	for way := range len(calls) * len(calls) * len(calls) * len(calls) {
		s, m := New(), &model{}
		did := ""
		for turn, rest := 0, way; turn < 4; turn++ {
			c := calls[rest%len(calls)]
			rest /= len(calls)
			did += c.what + "; "
			same(t, c.what, c.do(s, turn), c.do(m, turn))
		}
		alike(t, s, m, names)
		for range 4 {
			sameObjects(t, s, m, names)
		}
		if t.Failed() {
			t.Fatal(did)
		}
	}
}

// wild: numbers without a pattern, the same ones in each run.
type wild uint64

func (w *wild) below(n int) int {
	*w = *w*6364136223846793005 + 1442695040888963407
	return int(uint64(*w)>>33) % n
}

// step: one call of a keeper, told by wild numbers; what it answers, as text.
func step(s keeper, w wild, names []string) string {
	name := names[w.below(len(names))]
	switch kind := w.below(40); {
	case kind < 14:
		return told(s.Put(name, text(w.below(26), w.below(9))))
	case kind < 15:
		return told(s.Put(name, make([]byte, api.MaxFile+1)))
	case kind < 25:
		b, fault := s.Get(name)
		return told(fault) + string(b)
	case kind < 33:
		return told(s.Delete(name))
	case kind < 39:
		s.Fail(stirred(uint64(w), w.below(9)))
	default:
		s.Fail(stirred(uint64(w), w.below(1500)))
	}
	return ""
}

func TestManyCalls(t *testing.T) {
	for seed := range wild(12) {
		s, m := New(), &model{}
		names := []string{"a", "b", "seg.1", "seg.2", "month", "", strings.Repeat("n", 40), strings.Repeat("n", 41)}[seed%3:]
		w := seed
		for turn := range 600 {
			w.below(1)
			same(t, "an answer", step(s, w, names), step(m, w, names))
			alike(t, s, m, names)
			if t.Failed() {
				t.Fatalf("seed %d, turn %d", seed, turn)
			}
		}
	}
}

// TestTheSameTwice: what a store tells hangs on its calls alone.
func TestTheSameTwice(t *testing.T) {
	names := []string{"a", "b", "c", "d", "e"}
	for seed := range wild(5) {
		s, e := New(), New()
		w := seed
		for range 400 {
			w.below(1)
			same(t, "an answer", step(s, w, names), step(e, w, names))
			alike(t, s, e, names)
		}
	}
}

// --- P1603

// TestLaw: what is put is kept, till it is put anew or deleted, whatever is done to other objects, with no turn or with turns that are false.
func TestLaw(t *testing.T) {
	for _, turns := range []int{0, 1, 7, 500, 1000} {
		for seed := range wild(6) {
			s := New()
			s.Fail(make([]bool, turns))
			want := map[string]string{}
			w := seed
			for turn := range 300 {
				does(t, s, want, turn, &w)
			}
			keeps(t, s, want)
		}
	}
}

// does one call of a store in which no turn is true, told by wild numbers, and tells in want what it has to keep by it.
func does(t *testing.T, s *Store, want map[string]string, turn int, w *wild) {
	t.Helper()
	name := "month." + strconv.Itoa(w.below(12))
	was, is := want[name]
	switch w.below(5) {
	case 0, 1, 2:
		b := text(turn, w.below(40))
		same(t, "Put", s.Put(name, b), api.OK)
		want[name] = string(b)
	case 3:
		same(t, "Delete: whether it was there", s.Delete(name) == api.OK, is)
		delete(want, name)
	default:
		b, fault := s.Get(name)
		same(t, "Get", string(b), was)
		same(t, "Get: whether it is there", fault == api.OK, is)
	}
}

// keeps fails the test where s has other objects than these.
func keeps(t *testing.T, s *Store, want map[string]string) {
	t.Helper()
	same(t, "how many", len(s.Names()), len(want))
	var n int
	for name, b := range want {
		got, fault := s.Get(name)
		same(t, "Get", string(got), b)
		same(t, "Get: its fault", fault, api.OK)
		n += len(b)
	}
	same(t, "Bytes", s.Bytes(), int64(n))
}

// TestLawBehindTurnsThatAreTrue: what was put stays behind them, too, and what was not is not there.
func TestLawBehindTurnsThatAreTrue(t *testing.T) {
	for seed := range wild(50) {
		s := store(t, object{"a", "bytes"}, object{"b", ""})
		want := map[string]string{"a": "bytes", "b": ""}
		turns := stirred(uint64(seed), 40)
		s.Fail(turns)
		w := seed
		for i, turn := range turns {
			name := []string{"a", "b", "c", "d"}[w.below(4)]
			b := text(i, w.below(5))
			switch {
			case w.below(3) == 0:
				_, is := want[name]
				fault := s.Delete(name)
				same(t, "Delete: whether it is away", fault == api.Away, turn)
				same(t, "Delete: whether it is done", fault == api.OK, is && !turn)
				if !turn {
					delete(want, name)
				}
			default:
				same(t, "Put: whether it is away", s.Put(name, b) == api.Away, turn)
				if !turn {
					want[name] = string(b)
				}
			}
		}
		keeps(t, s, want)
	}
}
