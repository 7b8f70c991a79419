package disk

import (
	"slices"
	"strconv"
	"testing"

	"ossuary/api"
)

// --- P1503

// orders: all orders of things.
func orders[T any](things []T) [][]T {
	if len(things) == 0 {
		return [][]T{nil}
	}
	var l [][]T
	for i, x := range things {
		for _, rest := range orders(slices.Delete(slices.Clone(things), i, i+1)) {
			l = append(l, append([]T{x}, rest...))
		}
	}
	return l
}

func TestNamesRise(t *testing.T) {
	for _, names := range orders([]string{"b", "a", "aa", "\xff", "B", "\x00"}) {
		d := New()
		for i, name := range names {
			same(t, "Append", d.Append(name, nil), api.OK)
			tells(t, "Names", d.Names(), slices.Sorted(slices.Values(names[:i+1]))...)
		}
		d.Crash(0)
		tells(t, "Names", d.Names(), "\x00", "B", "a", "aa", "b", "\xff")
		for i, name := range names {
			same(t, "Remove", d.Remove(name), api.OK)
			tells(t, "Names", d.Names(), slices.Sorted(slices.Values(names[i+1:]))...)
		}
	}
}

func TestNamesOfMany(t *testing.T) {
	d := New()
	var want []string
	for i := range 1000 {
		name := "seg." + strconv.Itoa(i*7919%1000)
		same(t, "Append", d.Append(name, make([]byte, i%5)), api.OK)
		want = append(want, name)
	}
	slices.Sort(want)
	tells(t, "Names", d.Names(), want...)
	same(t, "Bytes", d.Bytes(), 2000)
	for i, name := range want {
		if i%3 > 0 {
			same(t, "Remove", d.Remove(name), api.OK)
		}
	}
	got := d.Names()
	same(t, "how many", len(got), 334)
	for i, name := range got {
		same(t, "a name", name, want[3*i])
	}
}

func TestHas(t *testing.T) {
	d := disk(t, held{"b", "safe", ""}, held{"c", "", "loose"}, held{"d", "safe", "loose"}, held{"e", "", ""})
	for name, want := range map[string]bool{"b": true, "c": true, "d": true, "e": true, "": false, "a": false, "bb": false, "B": false, "b\x00": false, "f": false} {
		same(t, "Has "+name, d.Has(name), want)
	}
	d.Rename("b", "f")
	d.Remove("c")
	for name, want := range map[string]bool{"b": false, "c": false, "d": true, "e": true, "f": true} {
		same(t, "Has "+name, d.Has(name), want)
	}
}

func TestBytes(t *testing.T) {
	d := New()
	same(t, "Bytes of no file", d.Bytes(), 0)
	for _, c := range []struct {
		do   func()
		want int64
	}{
		{func() { d.Append("a", nil) }, 0},
		{func() { d.Append("a", []byte("abc")) }, 3},
		{func() { d.Sync("a") }, 3},
		{func() { d.Append("a", []byte("de")) }, 5},
		{func() { d.Append("b", []byte("fghi")) }, 9},
		{func() { d.Append("c", []byte("j")) }, 10},
		{func() { d.Append("c", make([]byte, api.MaxFile)) }, 10},
		{func() { d.Rename("c", "b") }, 6},
		{func() { d.Rename("a", "a") }, 6},
		{func() { d.Crash(1) }, 5},
		{func() { d.Remove("a") }, 1},
		{func() { d.Remove("a") }, 1},
		{func() { d.Remove("b") }, 0},
	} {
		c.do()
		same(t, "Bytes", d.Bytes(), c.want)
	}
}

func TestBytesOfFullFiles(t *testing.T) {
	d := New()
	for i := range int64(4) {
		d.Append(strconv.Itoa(int(i)), full())
		same(t, "Bytes", d.Bytes(), (i+1)*api.MaxFile)
	}
}

func TestLoose(t *testing.T) {
	d := New()
	same(t, "Loose of no file", d.Loose("a"), 0)
	for _, c := range []struct {
		do   func()
		a, b int
	}{
		{func() { d.Append("a", nil) }, 0, 0},
		{func() { d.Append("a", []byte("abc")) }, 3, 0},
		{func() { d.Append("b", []byte("x")) }, 3, 1},
		{func() { d.Append("a", []byte("de")) }, 5, 1},
		{func() { d.Sync("b") }, 5, 0},
		{func() { d.Sync("a") }, 0, 0},
		{func() { d.Append("a", []byte("f")) }, 1, 0},
		{func() { d.Append("b", []byte("yz")) }, 1, 2},
		{func() { d.Rename("b", "a") }, 2, 0},
		{func() { d.Rename("a", "b") }, 0, 2},
		{func() { d.Crash(1) }, 0, 0},
		{func() { d.Append("b", []byte("!")) }, 0, 1},
		{func() { d.Remove("b") }, 0, 0},
		{func() { d.Append("b", nil) }, 0, 0},
	} {
		c.do()
		same(t, "Loose a", d.Loose("a"), c.a)
		same(t, "Loose b", d.Loose("b"), c.b)
		same(t, "Loose of no file", d.Loose("c"), 0)
	}
}

// TestLooksOfADiskThatIsDown: they tell the same as ahead of it.
func TestLooksOfADiskThatIsDown(t *testing.T) {
	files := []held{{"a", "safe", ""}, {"b", "", "loose"}, {"c", "both", "kinds"}, {"d", "", ""}}
	d := disk(t, files...)
	looks(t, "up", d, files...)
	d.Arm(1)
	looks(t, "armed", d, files...)
	same(t, "Remove", d.Remove("a"), api.Down)
	looks(t, "down", d, files...)
	same(t, "Has no file", d.Has("e"), false)
	same(t, "Loose of no file", d.Loose("e"), 0)
	d.Crash(whole)
	looks(t, "up again", d, safe(files)...)
}
