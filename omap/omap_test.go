package omap

import (
	"cmp"
	"iter"
	"maps"
	"math"
	"slices"
	"testing"
)

// same fails the test where got is not what the chapter says.
func same[T comparable](t *testing.T, what string, got, want T) {
	t.Helper()
	if got != want {
		t.Errorf("%s: %v, not %v", what, got, want)
	}
}

// pair: a key and its value.
type pair[K cmp.Ordered, V any] struct {
	k K
	v V
}

// told: what a range tells, as far as most pairs (below 0: all).
func told[K cmp.Ordered, V any](seq iter.Seq2[K, V], most int) []pair[K, V] {
	var l []pair[K, V]
	if most == 0 {
		return l
	}
	for k, v := range seq {
		l = append(l, pair[K, V]{k, v})
		if len(l) == most {
			break
		}
	}
	return l
}

func tells[K cmp.Ordered, V comparable](t *testing.T, what string, seq iter.Seq2[K, V], want ...pair[K, V]) {
	t.Helper()
	if got := told(seq, -1); !slices.Equal(got, want) {
		t.Errorf("%s: %v, not %v", what, got, want)
	}
}

// got: what Get answers, to be compared at once.
type got[V comparable] struct {
	v  V
	is bool
}

func getOf[K cmp.Ordered, V comparable](m *Map[K, V], k K) got[V] {
	v, is := m.Get(k)
	return got[V]{v, is}
}

// floor: what Floor answers, likewise.
type floor[K cmp.Ordered, V comparable] struct {
	k  K
	v  V
	is bool
}

func floorOf[K cmp.Ordered, V comparable](m *Map[K, V], k K) floor[K, V] {
	at, v, is := m.Floor(k)
	return floor[K, V]{at, v, is}
}

// of: a map of keys, put one by one, each with its place in the list as its value.
func of[K cmp.Ordered](keys ...K) *Map[K, int] {
	m := New[K, int]()
	for i, k := range keys {
		m.Put(k, i)
	}
	return m
}

// by: pairs out of keys and values in turn.
func by(l ...int) []pair[int, int] {
	var pairs []pair[int, int]
	for i := 0; i < len(l); i += 2 {
		pairs = append(pairs, pair[int, int]{l[i], l[i+1]})
	}
	return pairs
}

// model: what the map must tell: a map of the language, in order.
type model[K cmp.Ordered, V comparable] map[K]V

// between: the pairs whose keys are not below from, and below to.
func (m model[K, V]) between(from, to K) []pair[K, V] {
	return slices.DeleteFunc(m.all(), func(p pair[K, V]) bool { return p.k < from || p.k >= to })
}

func (m model[K, V]) all() []pair[K, V] {
	var l []pair[K, V]
	for _, k := range slices.Sorted(maps.Keys(m)) {
		l = append(l, pair[K, V]{k, m[k]})
	}
	return l
}

func (m model[K, V]) floor(k K) floor[K, V] {
	var f floor[K, V]
	for _, p := range m.all() {
		if p.k <= k {
			f = floor[K, V]{p.k, p.v, true}
		}
	}
	return f
}

// alike fails the test where m is not as its model, asked for each of keys, and for the ranges between each two of them.
func alike[K cmp.Ordered, V comparable](t *testing.T, m *Map[K, V], want model[K, V], keys []K) {
	t.Helper()
	same(t, "Len", m.Len(), len(want))
	tells(t, "All", m.All(), want.all()...)
	for _, k := range keys {
		v, is := want[k]
		same(t, "Get", getOf(m, k), got[V]{v, is})
		same(t, "Floor", floorOf(m, k), want.floor(k))
		for _, to := range keys {
			tells(t, "Range", m.Range(k, to), want.between(k, to)...)
		}
	}
	weighed(t, m)
}

// weighed fails the test where a side of m's tree is too heavy, or a size or an order is wrong: then a search could take longer than it should.
func weighed[K cmp.Ordered, V any](t *testing.T, m *Map[K, V]) {
	t.Helper()
	var walk func(n *node[K, V]) int
	walk = func(n *node[K, V]) int {
		if n == nil {
			return 0
		}
		left, right := walk(n.left), walk(n.right)
		if n.size != left+right+1 {
			t.Fatalf("a node over %d and %d keys has size %d", left, right, n.size)
		}
		if left+1 > heavy*(right+1) || right+1 > heavy*(left+1) {
			t.Fatalf("a node has %d keys left of it, %d right", left, right)
		}
		if n.left != nil && n.left.key >= n.key || n.right != nil && n.right.key <= n.key {
			t.Fatalf("a node of key %v is out of order", n.key)
		}
		return n.size
	}
	walk(m.root)
}

// wild: n numbers from 0 to below, without a pattern, the same ones in each run.
func wild(n, below int) []int {
	l := make([]int, n)
	x := uint64(n)
	for i := range l {
		x = x*6364136223846793005 + 1442695040888963407
		l[i] = int(x>>33) % below
	}
	return l
}

// orders: all orders of keys.
func orders[K any](keys []K) [][]K {
	if len(keys) == 0 {
		return [][]K{nil}
	}
	var l [][]K
	for i, k := range keys {
		for _, rest := range orders(slices.Delete(slices.Clone(keys), i, i+1)) {
			l = append(l, append([]K{k}, rest...))
		}
	}
	return l
}

// --- P601

func TestPut(t *testing.T) {
	m := New[int, string]()
	same(t, "Put of a new key", m.Put(5, "five"), true)
	same(t, "Put of that key", m.Put(5, "V"), false)
	same(t, "Put of that key and value", m.Put(5, "V"), false)
	same(t, "Put below", m.Put(2, "two"), true)
	same(t, "Put above", m.Put(9, "nine"), true)
	same(t, "Put between", m.Put(7, ""), true)
	same(t, "Len", m.Len(), 4)
	tells(t, "All", m.All(), pair[int, string]{2, "two"}, pair[int, string]{5, "V"}, pair[int, string]{7, ""}, pair[int, string]{9, "nine"})
}

func TestPutAnew(t *testing.T) {
	keys := []int{5, 2, 9, 7, 1, 8, 3}
	m := of(keys...)
	for i, k := range keys {
		same(t, "Put anew", m.Put(k, 100+i), false)
		same(t, "Get of what was put anew", getOf(m, k), got[int]{100 + i, true})
		same(t, "Len", m.Len(), len(keys))
	}
	tells(t, "All", m.All(), by(1, 104, 2, 101, 3, 106, 5, 100, 7, 103, 8, 105, 9, 102)...)
}

func TestGet(t *testing.T) {
	m := of(5, 2, 9)
	for k, want := range map[int]got[int]{5: {0, true}, 2: {1, true}, 9: {2, true}, 1: {}, 3: {}, 4: {}, 6: {}, 8: {}, 10: {}, math.MinInt: {}, math.MaxInt: {}} {
		same(t, "Get", getOf(m, k), want)
		same(t, "Get, again", getOf(m, k), want)
	}
}

func TestAValueOfZeroIsOne(t *testing.T) {
	m := New[string, int]()
	same(t, "Put of 0", m.Put("", 0), true)
	same(t, "Get", getOf(m, ""), got[int]{0, true})
	same(t, "Put of 0, again", m.Put("", 0), false)
	same(t, "Floor", floorOf(m, "a"), floor[string, int]{"", 0, true})
	same(t, "Drop", m.Drop(""), true)
	same(t, "Get behind it", getOf(m, ""), got[int]{})
}

func TestDrop(t *testing.T) {
	m := of(5, 2, 9)
	for _, k := range []int{1, 3, 8, 10, math.MinInt, math.MaxInt} {
		same(t, "Drop of a key that isn't there", m.Drop(k), false)
		same(t, "Len", m.Len(), 3)
	}
	same(t, "Drop", m.Drop(5), true)
	same(t, "Get of what was dropped", getOf(m, 5), got[int]{})
	same(t, "Drop, twice", m.Drop(5), false)
	tells(t, "All", m.All(), by(2, 1, 9, 2)...)
	same(t, "Put again", m.Put(5, 7), true)
	same(t, "Put anew", m.Put(5, 8), false)
	tells(t, "All, with what was put again", m.All(), by(2, 1, 5, 8, 9, 2)...)
	for i, k := range []int{9, 2, 5} {
		same(t, "Drop", m.Drop(k), true)
		same(t, "Len", m.Len(), 2-i)
	}
	tells(t, "All of none", m.All())
	same(t, "Drop of none", m.Drop(5), false)
	same(t, "Put into an emptied map", m.Put(5, 1), true)
	tells(t, "All", m.All(), by(5, 1)...)
}

func TestDropsInEachOrder(t *testing.T) {
	keys := []int{1, 2, 3, 4, 5, 6}
	for _, puts := range orders(keys) {
		for _, drops := range [][]int{keys, {6, 5, 4, 3, 2, 1}, puts, {3, 4, 2, 5, 1, 6}} {
			m := of(puts...)
			for i, k := range drops {
				same(t, "Drop", m.Drop(k), true)
				same(t, "Drop, twice", m.Drop(k), false)
				left := slices.Sorted(slices.Values(drops[i+1:]))
				if keys := slices.Collect(firsts(m.All())); !slices.Equal(keys, left) {
					t.Errorf("Drop of %v, put as %v: %v, not %v", drops[:i+1], puts, keys, left)
				}
			}
		}
	}
}

// firsts: the keys of a range.
func firsts[K, V any](seq iter.Seq2[K, V]) iter.Seq[K] {
	return func(yield func(K) bool) {
		for k := range seq {
			if !yield(k) {
				return
			}
		}
	}
}

func TestLen(t *testing.T) {
	m := New[int, int]()
	same(t, "Len of none", m.Len(), 0)
	for i := range 100 {
		m.Put(i%50, i)
		same(t, "Len", m.Len(), min(i+1, 50))
	}
	for i := range 100 {
		m.Drop(i % 70)
		same(t, "Len", m.Len(), max(49-i, 0))
	}
}

// --- P602

func TestFloor(t *testing.T) {
	m := of(5, 2, 9)
	for _, c := range []struct {
		k    int
		want floor[int, int]
	}{
		{math.MinInt, floor[int, int]{}}, {-1, floor[int, int]{}}, {0, floor[int, int]{}}, {1, floor[int, int]{}},
		{2, floor[int, int]{2, 1, true}}, {3, floor[int, int]{2, 1, true}}, {4, floor[int, int]{2, 1, true}},
		{5, floor[int, int]{5, 0, true}}, {6, floor[int, int]{5, 0, true}}, {8, floor[int, int]{5, 0, true}},
		{9, floor[int, int]{9, 2, true}}, {10, floor[int, int]{9, 2, true}}, {math.MaxInt, floor[int, int]{9, 2, true}},
	} {
		same(t, "Floor", floorOf(m, c.k), c.want)
	}
	m.Drop(5)
	same(t, "Floor of what was dropped", floorOf(m, 5), floor[int, int]{2, 1, true})
	m.Put(5, 70)
	m.Put(5, 71)
	same(t, "Floor of what was put again", floorOf(m, 6), floor[int, int]{5, 71, true})
}

func TestRange(t *testing.T) {
	m := of(5, 2, 9, 7)
	for _, c := range []struct {
		from, to int
		want     []pair[int, int]
	}{
		{2, 9, by(2, 1, 5, 0, 7, 3)}, {2, 10, by(2, 1, 5, 0, 7, 3, 9, 2)}, {1, 9, by(2, 1, 5, 0, 7, 3)}, {3, 9, by(5, 0, 7, 3)}, {3, 8, by(5, 0, 7, 3)}, {5, 7, by(5, 0)}, {5, 8, by(5, 0, 7, 3)}, {4, 6, by(5, 0)}, {9, 10, by(9, 2)}, {2, 3, by(2, 1)},
		{math.MinInt, math.MaxInt, by(2, 1, 5, 0, 7, 3, 9, 2)}, {-100, 3, by(2, 1)}, {8, 100, by(9, 2)},
		{3, 5, nil}, {3, 4, nil}, {0, 1, nil}, {0, 2, nil}, {10, 11, nil}, {10, math.MaxInt, nil}, {math.MinInt, 2, nil}, {8, 9, nil},
		{5, 5, nil}, {4, 4, nil}, {2, 2, nil}, {9, 9, nil}, {9, 2, nil}, {10, 1, nil}, {7, 5, nil}, {6, 5, nil}, {5, 4, nil}, {math.MaxInt, math.MinInt, nil}, {math.MinInt, math.MinInt, nil}, {math.MaxInt, math.MaxInt, nil},
	} {
		tells(t, "Range", m.Range(c.from, c.to), c.want...)
	}
	m.Drop(5)
	tells(t, "Range from what was dropped", m.Range(5, 9), by(7, 3)...)
	tells(t, "Range to what was dropped", m.Range(2, 5), by(2, 1)...)
	m.Put(5, 70)
	tells(t, "Range with what was put again", m.Range(3, 7), by(5, 70)...)
}

func TestARangeIsAskedAsFarAsOneLikes(t *testing.T) {
	m := of(wild(300, 1000)...)
	whole := told(m.All(), -1)
	part := slices.DeleteFunc(slices.Clone(whole), func(p pair[int, int]) bool { return p.k < 200 || p.k >= 700 })
	same(t, "there are keys enough", len(part) > 50, true)
	all, some := m.All(), m.Range(200, 700)
	for most := range len(whole) + 1 {
		if got := told(all, most); !slices.Equal(got, whole[:most]) {
			t.Fatalf("All, %d of it: %v", most, got)
		}
		if most <= len(part) && !slices.Equal(told(some, most), part[:most]) {
			t.Fatalf("Range, %d of it: not as the whole begins", most)
		}
	}
	tells(t, "All, again and whole", all, whole...)
	tells(t, "Range, again and whole", some, part...)
}

func TestARangeTellsNoMoreThanIsAsked(t *testing.T) {
	m := of(5, 2, 9, 7)
	for _, seq := range []iter.Seq2[int, int]{m.All(), m.Range(0, 100), m.Range(2, 9)} {
		for most := 1; most < 4; most++ {
			times := 0
			seq(func(int, int) bool {
				times++
				return times < most
			})
			same(t, "times that a range tells", times, most)
		}
	}
}

func TestARangeWithinARange(t *testing.T) {
	m := of(5, 2, 9)
	all := m.All()
	var l []pair[int, int]
	for k := range all {
		for k2 := range all {
			if k2 > k {
				break
			}
			l = append(l, pair[int, int]{k, k2})
		}
	}
	if want := by(2, 2, 5, 2, 5, 5, 9, 2, 9, 5, 9, 9); !slices.Equal(l, want) {
		t.Errorf("a range within a range: %v, not %v", l, want)
	}
}

func TestARangeWhoseMapIsChangedBehindIt(t *testing.T) {
	m := of(5, 2, 9)
	all, some := m.All(), m.Range(2, 9)
	m.Put(5, 50)
	m.Put(6, 60)
	m.Drop(2)
	tells(t, "All, asked before", all, by(2, 1, 5, 0, 9, 2)...)
	tells(t, "Range, asked before", some, by(2, 1, 5, 0)...)
	tells(t, "All, asked behind", m.All(), by(5, 50, 6, 60, 9, 2)...)
	for k := range m.All() {
		same(t, "Drop within a range", m.Drop(k), true)
		same(t, "Put within a range", m.Put(k+100, k), true)
	}
	tells(t, "All, behind that", m.All(), by(105, 5, 106, 6, 109, 9)...)
}

func TestCopy(t *testing.T) {
	m := of(5, 2, 9)
	c := m.Copy()
	same(t, "Copy is another map", m != c, true)
	tells(t, "All of the copy", c.All(), by(2, 1, 5, 0, 9, 2)...)
	same(t, "Drop", m.Drop(2), true)
	same(t, "Put", m.Put(5, 50), false)
	same(t, "Put", m.Put(7, 70), true)
	tells(t, "All of a copy whose map is changed", c.All(), by(2, 1, 5, 0, 9, 2)...)
	same(t, "Len of it", c.Len(), 3)
	same(t, "Drop from the copy", c.Drop(9), true)
	same(t, "Drop from the copy", c.Drop(7), false)
	same(t, "Put into the copy", c.Put(1, 10), true)
	same(t, "Put into the copy", c.Put(5, 51), false)
	tells(t, "All of a map whose copy is changed", m.All(), by(5, 50, 7, 70, 9, 2)...)
	tells(t, "All of the copy", c.All(), by(1, 10, 2, 1, 5, 51)...)
}

func TestCopyOfNoneAndOfOne(t *testing.T) {
	none := New[int, int]()
	c := none.Copy()
	same(t, "Copy of an empty map is a map", c != nil, true)
	same(t, "Len", c.Len(), 0)
	same(t, "Put", c.Put(1, 2), true)
	same(t, "Len of the map", none.Len(), 0)
	again := c.Copy().Copy()
	same(t, "Drop", c.Drop(1), true)
	tells(t, "All of a copy's copy", again.All(), by(1, 2)...)
	tells(t, "All", c.All())
}

func TestEachCopyStaysAsItWas(t *testing.T) {
	m, now := New[int, int](), model[int, int]{}
	var copies []*Map[int, int]
	var kept []model[int, int]
	for i, k := range wild(400, 40) {
		copies, kept = append(copies, m.Copy()), append(kept, maps.Clone(now))
		if i%3 == 2 {
			m.Drop(k)
			delete(now, k)
		} else {
			m.Put(k, i)
			now[k] = i
		}
	}
	for i, c := range copies {
		tells(t, "All of a copy", c.All(), kept[i].all()...)
		same(t, "Len of a copy", c.Len(), len(kept[i]))
	}
}

// --- an empty map, a map of one key, a nil map

func TestAnEmptyMap(t *testing.T) {
	var zero Map[int, int]
	for _, m := range []*Map[int, int]{New[int, int](), of[int](), &zero} {
		for _, k := range []int{math.MinInt, -1, 0, 1, math.MaxInt} {
			same(t, "Get", getOf(m, k), got[int]{})
			same(t, "Drop", m.Drop(k), false)
			same(t, "Floor", floorOf(m, k), floor[int, int]{})
			tells(t, "Range", m.Range(k, math.MaxInt))
			tells(t, "Range", m.Range(math.MinInt, k))
		}
		tells(t, "All", m.All())
		same(t, "Len", m.Len(), 0)
		same(t, "Put", m.Put(1, 2), true)
		tells(t, "All", m.All(), by(1, 2)...)
	}
}

func TestTwoMapsShareNothing(t *testing.T) {
	a, b := New[int, int](), New[int, int]()
	same(t, "Put", a.Put(1, 2), true)
	same(t, "Len of another map", b.Len(), 0)
	same(t, "Get of another map", getOf(b, 1), got[int]{})
}

func TestAMapOfOneKey(t *testing.T) {
	for _, k := range []int{0, 5, -5, math.MinInt, math.MaxInt} {
		m := New[int, int]()
		same(t, "Put", m.Put(k, 7), true)
		alike(t, m, model[int, int]{k: 7}, []int{math.MinInt, math.MinInt + 1, -6, -5, -4, -1, 0, 1, 4, 5, 6, math.MaxInt - 1, math.MaxInt})
		same(t, "Drop of another", m.Drop(3), false)
		same(t, "Drop", m.Drop(k), true)
		alike(t, m, model[int, int]{}, []int{math.MinInt, k, math.MaxInt})
	}
}

func TestNil(t *testing.T) {
	var m *Map[int, string]
	same(t, "Put", m.Put(1, "a"), false)
	same(t, "Get", getOf(m, 1), got[string]{})
	same(t, "Drop", m.Drop(1), false)
	same(t, "Len", m.Len(), 0)
	same(t, "Floor", floorOf(m, 1), floor[int, string]{})
	tells(t, "Range", m.Range(0, 5))
	tells(t, "Range, whose end is below", m.Range(5, 0))
	tells(t, "All", m.All())
	same(t, "Copy", m.Copy(), nil)
	var texts *Map[string, []int]
	same(t, "Put", texts.Put("", nil), false)
	_, _, is := texts.Floor("a")
	same(t, "Floor", is, false)
	same(t, "Copy", texts.Copy(), nil)
}

// --- P603

func TestKeysOfSeveralTypes(t *testing.T) {
	severally(t, []int{math.MinInt, -7, -1, 0, 1, 7, math.MaxInt})
	severally(t, []int64{math.MinInt64, math.MinInt64 + 1, -1, 0, 1, math.MaxInt64 - 1, math.MaxInt64})
	severally(t, []uint64{0, 1, 2, math.MaxInt64, 1 << 63, math.MaxUint64 - 1, math.MaxUint64})
	severally(t, []int8{-128, -127, -1, 0, 1, 126, 127})
	severally(t, []uint8{0, 1, 127, 128, 129, 254, 255})
	severally(t, []float64{math.Inf(-1), -math.MaxFloat64, -1.5, 0, math.SmallestNonzeroFloat64, 1.5, math.Inf(1)})
	severally(t, []string{"", "\x00", "a", "a\x00", "ab", "b", "\xff"})
	type name string
	severally(t, []name{"", "A", "Z", "a", "aa", "é", "日"})
}

// severally: keys, which rise, are put in each order, and told as they rise; half of them go again.
func severally[K cmp.Ordered](t *testing.T, keys []K) {
	t.Helper()
	for turn, puts := range orders(keys) {
		if turn%31 != 0 { // some of the orders do
			continue
		}
		m, want := New[K, int](), model[K, int]{}
		for i, k := range puts {
			same(t, "Put", m.Put(k, i), true)
			want[k] = i
		}
		alike(t, m, want, keys)
		for _, k := range puts[:len(puts)/2] {
			same(t, "Drop", m.Drop(k), true)
			delete(want, k)
		}
		alike(t, m, want, keys)
	}
}

func TestKeysInEachOrderAreToldRising(t *testing.T) {
	keys := []int{10, 20, 30, 40, 50, 60, 70}
	want := []int{10, 20, 30, 40, 50, 60, 70}
	for _, puts := range orders(keys) {
		m := of(puts...)
		if got := slices.Collect(firsts(m.All())); !slices.Equal(got, want) {
			t.Fatalf("put as %v: %v", puts, got)
		}
		for i, k := range puts {
			m.Put(k, i+100)
		}
		if got := slices.Collect(firsts(m.Range(10, 70))); !slices.Equal(got, want[:6]) || m.Len() != 7 {
			t.Fatalf("put twice as %v: %v", puts, got)
		}
	}
}

func TestEachStepAgainstTheModel(t *testing.T) {
	var asked []int
	for k := -1; k <= 24; k++ {
		asked = append(asked, k)
	}
	m, want := New[int, int](), model[int, int]{}
	throws := wild(1200, 1000)
	for i := 0; i < len(throws); i += 2 {
		k := throws[i] % 24
		_, had := want[k]
		if drops := i/300%2*4 + 3; throws[i+1]%10 < drops { // more come than go, and then the other way round
			same(t, "Drop", m.Drop(k), had)
			delete(want, k)
		} else {
			same(t, "Put", m.Put(k, i), !had)
			want[k] = i
		}
		alike(t, m, want, asked)
	}
}

func TestManyKeysInSeveralOrders(t *testing.T) {
	const many = 100000
	rising := make([]int, many)
	for i := range rising {
		rising[i] = i
	}
	falling := slices.Clone(rising)
	slices.Reverse(falling)
	inward := make([]int, many)
	for i := range inward {
		inward[i] = i / 2
		if i%2 == 1 {
			inward[i] = many - 1 - i/2
		}
	}
	mixed := slices.Clone(rising)
	for i, w := range wild(many, many) {
		mixed[i], mixed[w] = mixed[w], mixed[i]
	}
	for name, puts := range map[string][]int{"rising": rising, "falling": falling, "inward": inward, "mixed": mixed} {
		m := of(puts...)
		same(t, name+": Len", m.Len(), many)
		weighed(t, m)
		if keys := slices.Collect(firsts(m.All())); !slices.Equal(keys, rising) {
			t.Errorf("%s: not told rising", name)
		}
		for i := 0; i < many; i += 97 {
			same(t, name+": Get", getOf(m, puts[i]), got[int]{i, true})
			for k := range m.Range(i, many) {
				same(t, name+": the first of a Range", k, i)
				break
			}
		}
		for _, k := range puts[many/10:] {
			same(t, name+": Drop", m.Drop(k), true)
		}
		weighed(t, m)
		left := slices.Sorted(slices.Values(puts[:many/10]))
		if keys := slices.Collect(firsts(m.All())); !slices.Equal(keys, left) {
			t.Errorf("%s: not told rising, behind drops", name)
		}
	}
}

func TestTheTreeStaysEven(t *testing.T) {
	for _, puts := range orders([]int{1, 2, 3, 4, 5, 6, 7, 8}) {
		m := of(puts...)
		weighed(t, m)
		for _, k := range []int{4, 1, 8, 2, 7} {
			m.Drop(k)
			weighed(t, m)
		}
	}
	m := New[int, int]()
	for i, k := range wild(20000, 300) { // keys come and go at both ends, and between
		if i/400%2 == 0 {
			m.Put(k, i)
		} else {
			m.Drop(k)
		}
		weighed(t, m)
	}
}

// --- keys of which nothing is promised

func TestNoKeyMakesItPanic(t *testing.T) {
	none := math.NaN()
	m := of(1.5, none, -1.5, none)
	m.Put(none, 1)
	m.Get(none)
	m.Floor(none)
	told(m.Range(none, 2), -1)
	told(m.Range(0, none), -1)
	told(m.All(), -1)
	m.Drop(none)
	same(t, "Get of another key", getOf(m, 1.5), got[int]{0, true})
	same(t, "Get of another key", getOf(m, -1.5), got[int]{2, true})
}
