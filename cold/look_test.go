package cold

import (
	"slices"
	"strconv"
	"testing"

	"ossuary/api"
)

// --- P1602

// orders: all orders of things.
func orders[T any](things []T) [][]T {
	if len(things) == 0 {
		return [][]T{nil}
	}
	var l [][]T
	for i, x := range things {
		for _, rest := range orders(slices.Delete(slices.Clone(things), i, i+1)) {
			l = append(l, append([]T{x}, rest...))
		}
	}
	return l
}

func TestNamesRise(t *testing.T) {
	for _, names := range orders([]string{"b", "a", "aa", "\xff", "B", "\x00"}) {
		s := New()
		for i, name := range names {
			same(t, "Put", s.Put(name, nil), api.OK)
			tells(t, "Names", s.Names(), slices.Sorted(slices.Values(names[:i+1]))...)
			same(t, "Put again", s.Put(names[0], []byte("x")), api.OK)
			tells(t, "Names, each once", s.Names(), slices.Sorted(slices.Values(names[:i+1]))...)
		}
		for i, name := range names {
			same(t, "Delete", s.Delete(name), api.OK)
			tells(t, "Names", s.Names(), slices.Sorted(slices.Values(names[i+1:]))...)
		}
	}
}

func TestNamesOfMany(t *testing.T) {
	s := New()
	var want []string
	for i := range 1000 {
		name := "seg." + strconv.Itoa(i*7919%1000)
		same(t, "Put", s.Put(name, make([]byte, i%5)), api.OK)
		want = append(want, name)
	}
	slices.Sort(want)
	tells(t, "Names", s.Names(), want...)
	same(t, "Bytes", s.Bytes(), 2000)
	var rest []string
	for i, name := range want {
		if i%3 > 0 {
			same(t, "Delete", s.Delete(name), api.OK)
		} else {
			rest = append(rest, name)
		}
	}
	tells(t, "Names of the rest", s.Names(), rest...)
}

func TestHas(t *testing.T) {
	s := store(t, object{"b", "bytes"}, object{"c", ""}, object{"d", "x"})
	for name, want := range map[string]bool{"b": true, "c": true, "d": true, "": false, "a": false, "bb": false, "B": false, "b\x00": false, "e": false} {
		same(t, "Has "+name, s.Has(name), want)
	}
	same(t, "Delete", s.Delete("b"), api.OK)
	same(t, "Put", s.Put("e", nil), api.OK)
	same(t, "Put of too much", s.Put("f", make([]byte, api.MaxFile+1)), api.Full)
	for name, want := range map[string]bool{"b": false, "c": true, "d": true, "e": true, "f": false} {
		same(t, "Has "+name, s.Has(name), want)
	}
}

func TestBytes(t *testing.T) {
	s := New()
	same(t, "Bytes of no object", s.Bytes(), 0)
	for _, c := range []struct {
		do   func()
		want int64
	}{
		{func() { s.Put("a", nil) }, 0},
		{func() { s.Put("a", []byte("abc")) }, 3},
		{func() { s.Put("b", []byte("defg")) }, 7},
		{func() { s.Put("c", []byte("h")) }, 8},
		{func() { s.Put("b", []byte("ij")) }, 6},
		{func() { s.Put("c", make([]byte, api.MaxFile+1)) }, 6},
		{func() { s.Put("", []byte("klm")) }, 6},
		{func() { s.Fail([]bool{true, true}) }, 6},
		{func() { s.Put("a", []byte("nopqrs")) }, 6},
		{func() { s.Delete("a") }, 6},
		{func() { s.Get("a") }, 6},
		{func() { s.Delete("a") }, 3},
		{func() { s.Delete("a") }, 3},
		{func() { s.Put("b", nil) }, 1},
		{func() { s.Delete("b") }, 1},
		{func() { s.Delete("c") }, 0},
	} {
		c.do()
		same(t, "Bytes", s.Bytes(), c.want)
	}
}

func TestBytesOfFullObjects(t *testing.T) {
	s := New()
	for i := range int64(4) {
		same(t, "Put", s.Put(strconv.Itoa(int(i)), full()), api.OK)
		same(t, "Bytes", s.Bytes(), (i+1)*api.MaxFile)
	}
}

func TestWaits(t *testing.T) {
	s := New()
	same(t, "Waits of a new store", s.Waits(), 0)
	for _, c := range []struct {
		do   func()
		want int
	}{
		{func() { s.Put("a", nil) }, 0},
		{func() { s.Fail([]bool{false}) }, 1},
		{func() { s.Put("a", nil) }, 0},
		{func() { s.Fail([]bool{true, false, true}) }, 3},
		{func() { s.Fail(nil) }, 3},
		{func() { s.Fail([]bool{true, true}) }, 5},
		{func() { s.Put("", nil) }, 5},
		{func() { s.Put("a", nil) }, 4},
		{func() { s.Get("b") }, 3},
		{func() { s.Delete("b") }, 2},
		{func() { s.Fail(make([]bool, 2000)) }, 1000},
		{func() { s.Put("a", make([]byte, api.MaxFile+1)) }, 999},
		{func() { s.Fail([]bool{true}) }, 1000},
		{func() { s.Fail([]bool{true}) }, 1000},
	} {
		c.do()
		same(t, "Waits", s.Waits(), c.want)
	}
}

// TestLooksTakeNoTurn: of whatever they are asked, and tell the same whatever turns wait.
func TestLooksTakeNoTurn(t *testing.T) {
	objects := []object{{"a", "bytes"}, {"b", ""}, {"c", "x"}}
	for _, turns := range [][]bool{nil, {true}, {false}, {true, true, false}, {false, true, true}, stirred(8, 1000)} {
		s := store(t, objects...)
		s.Fail(turns)
		for range 3 {
			looks(t, "turns", s, len(turns), objects...)
			for _, name := range append(badNames(), "d", "A") {
				same(t, "Has no object", s.Has(name), false)
			}
		}
		drains(t, "turns, behind looks", s, turns...)
		holds(t, "behind all", s, objects...)
	}
}
