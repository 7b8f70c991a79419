package cold

import (
	"slices"
	"strconv"
	"testing"

	"ossuary/api"
)

// --- P1601: turns

// turnsOf: n turns told by the bits of a number.
func turnsOf(bits, n int) []bool {
	l := make([]bool, n)
	for i := range l {
		l[i] = bits>>i&1 == 1
	}
	return l
}

// stirred: n turns without a pattern, the same ones in each run.
func stirred(seed uint64, n int) []bool {
	w := wild(seed)
	l := make([]bool, n)
	for i := range l {
		l[i] = w.below(2) == 1
	}
	return l
}

// taken: the turn that the next call takes; it leaves the store as it was. Without one: false.
func taken(s *Store) bool {
	return s.Delete("never put") == api.Away
}

// drains fails the test where just these turns don't wait, in their order; behind it none does.
func drains(t *testing.T, what string, s *Store, turns ...bool) {
	t.Helper()
	for i, turn := range turns {
		same(t, what+": Waits", s.Waits(), len(turns)-i)
		same(t, what+": turn "+strconv.Itoa(i), taken(s), turn)
	}
	same(t, what+": Waits, behind all", s.Waits(), 0)
	for range 3 {
		same(t, what+": behind all", taken(s), false)
	}
	same(t, what+": Waits of none", s.Waits(), 0)
}

func TestEachRowOfTurns(t *testing.T) {
	for n := range 9 {
		for bits := range 1 << n {
			s := New()
			s.Fail(turnsOf(bits, n))
			drains(t, strconv.Itoa(n)+" turns "+strconv.Itoa(bits), s, turnsOf(bits, n)...)
		}
	}
}

// TestEachCallByItsTurn: each kind of call, of an object that is there and of none, behind each row of two turns.
func TestEachCallByItsTurn(t *testing.T) {
	for _, c := range allTaking() {
		for bits := range 16 {
			for name, fault := range map[string]api.Fault{"a": c.there, "b": c.other} {
				s := store(t, object{"a", "bytes"}, object{"c", ""})
				turns := turnsOf(bits, 4)
				s.Fail(turns)
				taken(s)
				taken(s)
				want := fault
				if turns[2] {
					want = api.Away
				}
				what := c.what + " " + name + ", turns " + strconv.Itoa(bits)
				same(t, what, c.do(s, name), want)
				same(t, what+": Waits", s.Waits(), 1)
				same(t, what+": the turn behind it", taken(s), turns[3])
			}
		}
	}
}

// TestAwayDoesNothing: but take its turn.
func TestAwayDoesNothing(t *testing.T) {
	for _, c := range allTaking() {
		for _, name := range []string{"a", "b", "c"} {
			for waits := range 5 {
				s := store(t, object{"a", "bytes"}, object{"c", ""})
				s.Fail(append([]bool{true}, make([]bool, waits)...))
				same(t, c.what, c.do(s, name), api.Away)
				looks(t, c.what+", away", s, waits, object{"a", "bytes"}, object{"c", ""})
				drains(t, c.what+", away", s, make([]bool, waits)...)
				holds(t, c.what+", away", s, object{"a", "bytes"}, object{"c", ""})
			}
		}
	}
}

// TestTurnsOfManyCalls: calls of all kinds take the turns, one each, whatever they answer.
func TestTurnsOfManyCalls(t *testing.T) {
	kinds := allTaking()
	turns := stirred(1, 1000)
	s := New()
	s.Fail(turns)
	for i, turn := range turns {
		name := []string{"a", "b", "c"}[i%3]
		s.Put("", nil)
		s.Get("")
		s.Delete("")
		there := s.Has(name)
		c := kinds[i*7%len(kinds)]
		want := c.other
		if there {
			want = c.there
		}
		if turn {
			want = api.Away
		}
		same(t, c.what+" "+name, c.do(s, name), want)
		same(t, "Waits", s.Waits(), 999-i)
		if turn {
			same(t, "Has behind Away", s.Has(name), there)
		}
	}
	same(t, "Put, without a turn", s.Put("a", nil), api.OK)
}

// --- P1601: Fail

func TestFailOfNoTurns(t *testing.T) {
	for _, none := range [][]bool{nil, {}} {
		s := store(t, object{"a", "bytes"})
		s.Fail(none)
		holds(t, "no turn", s, object{"a", "bytes"})
		s.Fail([]bool{true, false, true})
		s.Fail(none)
		looks(t, "behind some", s, 3, object{"a", "bytes"})
		drains(t, "behind some", s, true, false, true)
		s.Fail(none)
		holds(t, "behind all", s, object{"a", "bytes"})
	}
}

// TestFailInTurn: rows of turns wait one behind the other, cut anywhere, with calls between them.
func TestFailInTurn(t *testing.T) {
	turns := []bool{true, true, false, true, false, false, true, false}
	for i := range len(turns) + 1 {
		for j := i; j <= len(turns); j++ {
			s := New()
			s.Fail(turns[:i])
			s.Fail(turns[i:j])
			s.Fail(turns[j:])
			drains(t, "three rows", s, turns...)
			for between := range i + 1 {
				s.Fail(turns[:i])
				for k := range between {
					same(t, "a turn ahead", taken(s), turns[k])
				}
				s.Fail(turns[i:j])
				drains(t, "two rows, behind some calls", s, turns[between:j]...)
			}
		}
	}
}

func TestFailOneByOne(t *testing.T) {
	turns := stirred(2, 1100)
	s := New()
	for i := range turns {
		s.Fail(turns[i : i+1])
		same(t, "Waits", s.Waits(), min(i+1, 1000))
	}
	drains(t, "turns that came one by one", s, turns[:1000]...)
}

func TestFailOfMany(t *testing.T) {
	for _, n := range []int{1, 2, 500, 998, 999, 1000, 1001, 1002, 1999, 2000, 2001, 1 << 17} {
		turns := stirred(uint64(n), n)
		s := New()
		s.Fail(turns)
		drains(t, strconv.Itoa(n)+" turns", s, turns[:min(n, 1000)]...)
	}
}

// TestFailBeyondTheRoom: what would be more than 1000 plays no part, whatever waits already.
func TestFailBeyondTheRoom(t *testing.T) {
	sizes := []int{0, 1, 2, 500, 501, 998, 999, 1000, 1001, 3000}
	for _, n := range sizes {
		for _, more := range sizes {
			first, second := stirred(uint64(n), n), stirred(uint64(more+7), more)
			all := slices.Concat(first[:min(n, 1000)], second)
			all = all[:min(len(all), 1000)]
			s := New()
			s.Fail(first)
			s.Fail(second)
			what := strconv.Itoa(n) + " turns, and " + strconv.Itoa(more)
			drains(t, what, s, all...)
		}
	}
}

// TestRoomAgain: when turns have been taken, there is room for as many, also in a store that was full.
func TestRoomAgain(t *testing.T) {
	for _, n := range []int{1, 2, 3, 499, 500, 999, 1000} {
		first, second := stirred(3, 1200), stirred(4, 1200)
		s := New()
		s.Fail(first)
		for i := range n {
			same(t, "a turn", taken(s), first[i])
		}
		same(t, "Waits", s.Waits(), 1000-n)
		s.Fail(second)
		same(t, "Waits of a store that is full again", s.Waits(), 1000)
		s.Fail([]bool{true, true})
		drains(t, strconv.Itoa(n)+" turns taken", s, slices.Concat(first[n:1000], second[:n])...)
	}
}

// TestAlwaysFull: a store that is filled up behind each call, many times over.
func TestAlwaysFull(t *testing.T) {
	turns := stirred(5, 5000)
	s := New()
	s.Fail(turns)
	for i := range 4000 {
		same(t, "a turn", taken(s), turns[i])
		s.Fail([]bool{turns[i+1000], !turns[i+1000]})
		same(t, "Waits", s.Waits(), 1000)
	}
	drains(t, "what waits last", s, turns[4000:]...)
}

func TestTurnsThatAreHandedInAreNotKept(t *testing.T) {
	room := []bool{true, false, true, true, false}
	was := slices.Clone(room)
	s := New()
	s.Fail(room[:3])
	tells(t, "what was handed in", room, was...)
	for i := range room {
		room[i] = !room[i]
	}
	turned := slices.Clone(room)
	s.Fail(room[1:2])
	tells(t, "what was handed in again", room, turned...)
	clear(room)
	s.Fail([]bool{true})
	tells(t, "what was handed in, behind more", room, make([]bool, 5)...)
	drains(t, "turns", s, true, false, true, true, true)
	tells(t, "what was handed in, behind all", room, make([]bool, 5)...)
}

// TestTurnsOfABadName: a call whose name is not allowed takes none.
func TestTurnsOfABadName(t *testing.T) {
	turns := stirred(6, 200)
	s := New()
	s.Fail(turns)
	for i, turn := range turns {
		for _, name := range badNames() {
			same(t, "Put", s.Put(name, nil), api.Range)
			refused(t, "Get", s, name, api.Range)
			same(t, "Delete", s.Delete(name), api.Range)
		}
		same(t, "Waits", s.Waits(), 200-i)
		same(t, "a turn", taken(s), turn)
	}
}
