package lane

import (
	"math"
	"runtime"
	"slices"
	"strconv"
	"strings"
	"testing"

	"ossuary/api"
)

// same fails the test where got is not what the chapter says.
func same[T comparable](t *testing.T, what string, got, want T) {
	t.Helper()
	if got != want {
		t.Errorf("%s: %v, not %v", what, got, want)
	}
}

// tells ends the test where a list is not what the chapter says: what comes behind a wrong one is most often wrong, too.
func tells[T comparable](t *testing.T, what string, got []T, want ...T) {
	t.Helper()
	if !slices.Equal(got, want) {
		t.Fatalf("%s: %v, not %v", what, got, want)
	}
}

// taken: what Take answers, to be compared at once.
type taken[T comparable] struct {
	lane int
	x    T
	is   bool
}

func takeOf[T comparable](q *Lanes[T]) taken[T] {
	lane, x, is := q.Take()
	return taken[T]{lane, x, is}
}

// got: what From answers, to be compared at once.
type got[T comparable] struct {
	x  T
	is bool
}

func fromOf[T comparable](q *Lanes[T], lane int) got[T] {
	x, is := q.From(lane)
	return got[T]{x, is}
}

// of: lanes in which those things are, lane by lane.
func of[T any](t *testing.T, room int, lanes ...[]T) *Lanes[T] {
	t.Helper()
	q, fault := New[T](len(lanes), room)
	if fault != api.OK {
		t.Fatalf("New(%d, %d): %d", len(lanes), room, fault)
	}
	for lane, things := range lanes {
		putAll(t, q, lane, things...)
	}
	return q
}

func putAll[T any](t *testing.T, q *Lanes[T], lane int, things ...T) {
	t.Helper()
	for i, x := range things {
		if fault := q.Put(lane, x); fault != api.OK {
			t.Fatalf("Put of the thing %d into the lane %d: %d", i, lane, fault)
		}
	}
}

// lens: how many things each lane has.
func lens[T any](q *Lanes[T], lanes int) []int {
	l := make([]int, lanes)
	for i := range l {
		l[i] = q.Len(i)
	}
	return l
}

// holds ends the test where the lanes do not have those things; behind it they are empty.
func holds[T comparable](t *testing.T, what string, q *Lanes[T], lanes ...[]T) {
	t.Helper()
	for lane, things := range lanes {
		same(t, what+": Len of "+strconv.Itoa(lane), q.Len(lane), len(things))
		tells(t, what+": lane "+strconv.Itoa(lane), q.Drain(lane), things...)
	}
}

// count: n numbers from first on.
func count(first, n int) []int {
	l := make([]int, n)
	for i := range l {
		l[i] = first + i
	}
	return l
}

// wild: n numbers from 0 to below, without a pattern, the same ones in each run.
func wild(n, below int) []int {
	l := make([]int, n)
	x := uint64(n)
	for i := range l {
		x = x*6364136223846793005 + 1442695040888963407
		l[i] = int(x>>33) % below
	}
	return l
}

// noLanes: numbers that are those of no lane, if there are as many.
func noLanes(lanes int) []int {
	return []int{lanes, lanes + 1, -1, -lanes, math.MinInt, math.MaxInt, math.MaxInt32, 1 << 32, -1 << 32}
}

// --- P801 New

func TestNewOfEachSize(t *testing.T) {
	sizes := []int{math.MinInt, math.MinInt32, -65, -64, -9, -8, -2, -1, 0, math.MaxInt32, 1 << 32, 1<<32 + 1, math.MaxInt - 1, math.MaxInt}
	sizes = append(sizes, count(1, 130)...)
	for _, lanes := range sizes {
		for _, room := range sizes {
			q, fault := New[int](lanes, room)
			right := 1 <= lanes && lanes <= 8 && 1 <= room && room <= 64
			if right != (fault == api.OK) || right != (q != nil) || !right && fault != api.Range {
				t.Fatalf("New(%d, %d): %v, %d", lanes, room, q, fault)
			}
		}
	}
}

func TestNewAtItsEdges(t *testing.T) {
	for _, e := range []struct {
		lanes, room int
		fault       api.Fault
	}{
		{1, 1, api.OK}, {8, 64, api.OK}, {1, 64, api.OK}, {8, 1, api.OK},
		{0, 1, api.Range}, {9, 1, api.Range}, {-1, 1, api.Range},
		{1, 0, api.Range}, {1, 65, api.Range}, {1, -1, api.Range},
		{0, 0, api.Range}, {9, 65, api.Range}, {-1, -1, api.Range}, {64, 8, api.Range},
	} {
		_, fault := New[string](e.lanes, e.room)
		same(t, "New("+strconv.Itoa(e.lanes)+", "+strconv.Itoa(e.room)+")", fault, e.fault)
	}
}

func TestNewIsEmpty(t *testing.T) {
	for lanes := 1; lanes <= 8; lanes++ {
		q, _ := New[int](lanes, 3)
		same(t, "Take", takeOf(q), taken[int]{})
		for lane := range lanes {
			same(t, "Len", q.Len(lane), 0)
			same(t, "From", fromOf(q, lane), got[int]{})
			tells(t, "Drain", q.Drain(lane))
		}
	}
}

func TestNewHasAsManyLanes(t *testing.T) {
	for lanes := 1; lanes <= 8; lanes++ {
		q, _ := New[int](lanes, 1)
		for lane := -2; lane <= 10; lane++ {
			want := api.Range
			if 0 <= lane && lane < lanes {
				want = api.OK
			}
			same(t, "Put into "+strconv.Itoa(lane)+" of "+strconv.Itoa(lanes), q.Put(lane, 1), want)
		}
	}
}

func TestNewIsAnother(t *testing.T) {
	a, _ := New[int](2, 2)
	b, _ := New[int](2, 2)
	putAll(t, a, 0, 1, 2)
	holds(t, "the other one", b, nil, nil)
	putAll(t, b, 0, 3)
	holds(t, "the first one", a, []int{1, 2}, nil)
	holds(t, "the other one", b, []int{3}, nil)
}

// --- P801 Put

func TestPutUpToRoom(t *testing.T) {
	for lanes := 1; lanes <= 8; lanes++ {
		for room := 1; room <= 64; room++ {
			q, _ := New[int](lanes, room)
			var want [][]int
			for lane := range lanes {
				want = append(want, count(100*lane, room))
				putAll(t, q, lane, want[lane]...)
			}
			for lane := range lanes {
				same(t, "Put into a full lane", q.Put(lane, -1), api.Full)
				same(t, "Put into a full lane again", q.Put(lane, -2), api.Full)
				same(t, "Len of a full lane", q.Len(lane), room)
			}
			holds(t, "lanes that were full", q, want...)
		}
	}
}

func TestPutIntoAFullLaneAgain(t *testing.T) {
	q := of(t, 3, []int{1, 2, 3}, []int{9})
	same(t, "Put into a full lane", q.Put(0, 4), api.Full)
	same(t, "From", fromOf(q, 0), got[int]{1, true})
	same(t, "Put where one was taken", q.Put(0, 5), api.OK)
	same(t, "Put into a full lane again", q.Put(0, 6), api.Full)
	same(t, "Take", takeOf(q), taken[int]{0, 2, true})
	same(t, "Put where one was taken by Take", q.Put(0, 7), api.OK)
	same(t, "Put into a full lane again", q.Put(0, 8), api.Full)
	holds(t, "behind it", q, []int{3, 5, 7}, []int{9})
}

func TestPutIsTheLast(t *testing.T) {
	q, _ := New[int](1, 4)
	same(t, "Put into an empty lane", q.Put(0, 3), api.OK)
	same(t, "Put into a lane that has one", q.Put(0, 1), api.OK)
	same(t, "Put of what is there", q.Put(0, 3), api.OK)
	same(t, "Put into a lane with room for one", q.Put(0, 2), api.OK)
	same(t, "Put into a full lane", q.Put(0, 0), api.Full)
	tells(t, "Drain", q.Drain(0), 3, 1, 3, 2)
}

func TestPutIntoNoLane(t *testing.T) {
	for lanes := 1; lanes <= 8; lanes++ {
		q, _ := New[int](lanes, 1)
		for _, no := range noLanes(lanes) {
			same(t, "Put into no lane", q.Put(no, 5), api.Range)
		}
		same(t, "Take", takeOf(q), taken[int]{})
		for lane := range lanes {
			putAll(t, q, lane, lane)
		}
		for _, no := range noLanes(lanes) {
			same(t, "Put into no lane, where all are full", q.Put(no, 5), api.Range)
		}
		for lane := range lanes {
			tells(t, "Drain", q.Drain(lane), lane)
		}
	}
}

// --- P801 From

func TestFrom(t *testing.T) {
	q := of(t, 3, nil, []int{4, 5, 6}, []int{7})
	same(t, "From of an empty lane", fromOf(q, 0), got[int]{})
	same(t, "From of a full one", fromOf(q, 1), got[int]{4, true})
	same(t, "From of one with things", fromOf(q, 1), got[int]{5, true})
	same(t, "From of one with one", fromOf(q, 2), got[int]{7, true})
	same(t, "From of one that is empty now", fromOf(q, 2), got[int]{})
	same(t, "From of one that is empty now, again", fromOf(q, 2), got[int]{})
	same(t, "From of the last one", fromOf(q, 1), got[int]{6, true})
	same(t, "From of one that is empty now", fromOf(q, 1), got[int]{})
	putAll(t, q, 1, 8)
	same(t, "From of one with things again", fromOf(q, 1), got[int]{8, true})
	holds(t, "behind it", q, nil, nil, nil)
}

func TestFromNoLane(t *testing.T) {
	q := of(t, 2, []int{1, 2}, []int{3})
	for _, no := range noLanes(2) {
		same(t, "From of no lane", fromOf(q, no), got[int]{})
	}
	holds(t, "behind it", q, []int{1, 2}, []int{3})
}

// --- P801 Take

// TestTakeOfEachChoice: eight lanes, of which each choice has things.
func TestTakeOfEachChoice(t *testing.T) {
	for choice := range 1 << 8 {
		q, _ := New[int](8, 2)
		var want []taken[int]
		for lane := range 8 {
			if choice>>lane&1 == 1 {
				putAll(t, q, lane, 10*lane, 10*lane+1)
				want = append(want, taken[int]{lane, 10 * lane, true}, taken[int]{lane, 10*lane + 1, true})
			}
		}
		want = append(want, taken[int]{}, taken[int]{})
		var all []taken[int]
		for range want {
			all = append(all, takeOf(q))
		}
		tells(t, "Take of the choice "+strconv.Itoa(choice), all, want...)
	}
}

func TestTakeLeavesTheOthers(t *testing.T) {
	q := of(t, 2, nil, []int{1, 2}, nil, []int{3, 4})
	same(t, "Take", takeOf(q), taken[int]{1, 1, true})
	tells(t, "Len", lens(q, 4), 0, 1, 0, 2)
	putAll(t, q, 2, 5)
	putAll(t, q, 0, 6)
	same(t, "Take of a lane that is lower now", takeOf(q), taken[int]{0, 6, true})
	same(t, "Take", takeOf(q), taken[int]{1, 2, true})
	same(t, "Take", takeOf(q), taken[int]{2, 5, true})
	tells(t, "Len", lens(q, 4), 0, 0, 0, 2)
	holds(t, "behind it", q, nil, nil, nil, []int{3, 4})
}

func TestTakeOfTheExample(t *testing.T) {
	q, _ := New[string](2, 1)
	putAll(t, q, 1, "a")
	putAll(t, q, 0, "b")
	same(t, "Take", takeOf(q), taken[string]{0, "b", true})
	same(t, "Take", takeOf(q), taken[string]{1, "a", true})
	same(t, "Take", takeOf(q), taken[string]{0, "", false})
}

// --- P802

func TestLen(t *testing.T) {
	q, _ := New[int](3, 64)
	for n := range 64 {
		same(t, "Len ahead of Put", q.Len(1), n)
		putAll(t, q, 1, n)
	}
	same(t, "Len of a full lane", q.Len(1), 64)
	same(t, "Put into a full lane", q.Put(1, 64), api.Full)
	for n := 63; n >= 0; n-- {
		q.From(1)
		same(t, "Len behind From", q.Len(1), n)
	}
	q.From(1)
	same(t, "Len behind From of an empty lane", q.Len(1), 0)
	tells(t, "Len", lens(q, 3), 0, 0, 0)
}

func TestLenChangesNothing(t *testing.T) {
	q := of(t, 2, []int{1, 2}, []int{3}, nil)
	for range 3 {
		tells(t, "Len", lens(q, 3), 2, 1, 0)
	}
	for _, no := range noLanes(3) {
		same(t, "Len of no lane", q.Len(no), 0)
	}
	holds(t, "behind it", q, []int{1, 2}, []int{3}, nil)
}

func TestDrainOfEachLen(t *testing.T) {
	for n := range 65 {
		q := of(t, 64, []int{-1}, count(0, n), []int{-2, -3})
		tells(t, "Drain", q.Drain(1), count(0, n)...)
		tells(t, "Len behind Drain", lens(q, 3), 1, 0, 2)
		tells(t, "Drain again", q.Drain(1))
		same(t, "From behind Drain", fromOf(q, 1), got[int]{})
		putAll(t, q, 1, count(1000, 64)...)
		same(t, "Put into a lane that is full again", q.Put(1, 5), api.Full)
		holds(t, "filled again", q, []int{-1}, count(1000, 64), []int{-2, -3})
	}
}

func TestDrainBehindFrom(t *testing.T) {
	for gone := range 65 {
		q := of(t, 64, count(0, 64))
		for range gone {
			q.From(0)
		}
		putAll(t, q, 0, count(64, gone)...)
		tells(t, "Drain of a full lane of which some were taken", q.Drain(0), count(gone, 64)...)
	}
}

func TestDrainNoLane(t *testing.T) {
	q := of(t, 2, []int{1, 2}, nil, []int{3})
	for _, no := range noLanes(3) {
		tells(t, "Drain of no lane", q.Drain(no))
	}
	holds(t, "behind it", q, []int{1, 2}, nil, []int{3})
}

func TestDrainIsNewMemory(t *testing.T) {
	q := of(t, 4, []int{1, 2}, []int{3})
	first, other := q.Drain(0), q.Drain(1)
	putAll(t, q, 0, 4, 5)
	putAll(t, q, 1, 6)
	tells(t, "a list of Drain, behind later calls", first, 1, 2)
	tells(t, "another list", other, 3)
	first = append(first[:0], 7, 8, 9)
	second := q.Drain(0)
	tells(t, "the next list of that lane", second, 4, 5)
	second[0] = 10
	tells(t, "the first list", first, 7, 8, 9)
	tells(t, "the list of the other lane", q.Drain(1), 6)
	tells(t, "Len", lens(q, 2), 0, 0)
}

// --- P803

// model: lanes as lists, put and taken by the chapter's words.
type model struct {
	lanes [][]int
	room  int
}

func (m *model) put(lane, x int) api.Fault {
	if lane < 0 || lane >= len(m.lanes) {
		return api.Range
	}
	if len(m.lanes[lane]) == m.room {
		return api.Full
	}
	m.lanes[lane] = append(slices.Clone(m.lanes[lane]), x)
	return api.OK
}

func (m *model) from(lane int) got[int] {
	if lane < 0 || lane >= len(m.lanes) || len(m.lanes[lane]) == 0 {
		return got[int]{}
	}
	x := m.lanes[lane][0]
	m.lanes[lane] = m.lanes[lane][1:]
	return got[int]{x, true}
}

func (m *model) take() taken[int] {
	for lane, l := range m.lanes {
		if len(l) > 0 {
			return taken[int]{lane, m.from(lane).x, true}
		}
	}
	return taken[int]{}
}

func (m *model) drain(lane int) []int {
	if lane < 0 || lane >= len(m.lanes) {
		return nil
	}
	l := m.lanes[lane]
	m.lanes[lane] = nil
	return l
}

func (m *model) lens() []int {
	l := make([]int, len(m.lanes))
	for i := range l {
		l[i] = len(m.lanes[i])
	}
	return l
}

// step: one call, by its kind from 0 to 9, of both; kinds below 7 put more than they take, so that lanes become full, too.
func step(t *testing.T, q *Lanes[int], m *model, kind, lane, x int) {
	t.Helper()
	switch {
	case kind < 5:
		same(t, "Put", q.Put(lane, x), m.put(lane, x))
	case kind < 7:
		same(t, "From", fromOf(q, lane), m.from(lane))
	case kind < 9:
		same(t, "Take", takeOf(q), m.take())
	default:
		tells(t, "Drain", q.Drain(lane), m.drain(lane)...)
	}
	tells(t, "Len", lens(q, len(m.lanes)), m.lens()...)
}

// TestEachWayOfFewCalls: two lanes with room for two, and each row of six calls.
func TestEachWayOfFewCalls(t *testing.T) {
	calls := [][2]int{{0, 0}, {0, 1}, {5, 0}, {5, 1}, {7, 0}, {9, 0}, {9, 1}}
	ways := 1
	for range 6 {
		ways *= len(calls)
	}
	for way := range ways {
		q, _ := New[int](2, 2)
		m := &model{make([][]int, 2), 2}
		rest := way
		for x := range 6 {
			c := calls[rest%len(calls)]
			rest /= len(calls)
			step(t, q, m, c[0], c[1], x+1)
		}
		holds(t, "at the end", q, m.lanes...)
		if t.Failed() {
			t.Fatalf("the way %d", way)
		}
	}
}

func TestManyCalls(t *testing.T) {
	for _, size := range [][2]int{{1, 1}, {1, 64}, {2, 3}, {3, 1}, {5, 7}, {8, 1}, {8, 5}, {8, 64}} {
		const n = 20000
		q, _ := New[int](size[0], size[1])
		m := &model{make([][]int, size[0]), size[1]}
		kinds, lanes := wild(n, 10), wild(n+1, size[0]+2)
		for x := range n {
			kind := kinds[x]
			if kind == 9 && x%5 != 0 { // a Drain now and then, so that lanes with much room become full, too
				kind = 0
			}
			step(t, q, m, kind, lanes[x]-1, x)
		}
		if t.Failed() {
			t.Fatalf("of %d lanes with room %d", size[0], size[1])
		}
		holds(t, "at the end", q, m.lanes...)
	}
}

// TestOrder: what goes in lane by lane comes out so, in whatever order it went in.
func TestOrder(t *testing.T) {
	q, _ := New[[2]int](8, 64)
	var turns [8]int
	for _, lane := range wild(4000, 8) {
		if turns[lane] < 64 {
			putAll(t, q, lane, [2]int{lane, turns[lane]})
			turns[lane]++
		}
	}
	tells(t, "how many went in", turns[:], 64, 64, 64, 64, 64, 64, 64, 64)
	for lane := range 8 {
		for turn := range 64 {
			same(t, "Take", takeOf(q), taken[[2]int]{lane, [2]int{lane, turn}, true})
		}
	}
	same(t, "Take of lanes that are empty now", takeOf(q), taken[[2]int]{})
}

// TestLongLife: a lane that is filled and emptied many times is as a new one.
func TestLongLife(t *testing.T) {
	q, _ := New[int](2, 3)
	putAll(t, q, 1, -1)
	for x := range 100000 {
		putAll(t, q, 0, x)
		if x >= 2 && fromOf(q, 0) != (got[int]{x - 2, true}) {
			t.Fatalf("From at %d", x)
		}
	}
	holds(t, "at the end", q, []int{99998, 99999}, []int{-1})
}

// --- things of several types

// kindOf: things of a type go through, and the zero thing where there is none.
func kindOf[T comparable](t *testing.T, what string, a, b T) {
	t.Helper()
	var zero T
	q := of(t, 3, []T{a, zero}, []T{b, a, b})
	same(t, what+": Put into a full lane", q.Put(1, a), api.Full)
	same(t, what+": From", fromOf(q, 1), got[T]{b, true})
	same(t, what+": Take", takeOf(q), taken[T]{0, a, true})
	same(t, what+": Take of a zero thing", takeOf(q), taken[T]{0, zero, true})
	same(t, what+": From of an empty lane", fromOf(q, 0), got[T]{})
	same(t, what+": From of no lane", fromOf(q, 2), got[T]{})
	tells(t, what+": Drain", q.Drain(1), a, b)
	same(t, what+": Take of empty lanes", takeOf(q), taken[T]{})
	same(t, what+": From of nil", fromOf[T](nil, 0), got[T]{})
	same(t, what+": Take of nil", takeOf[T](nil), taken[T]{})
}

func TestKinds(t *testing.T) {
	one, other := 1, 1
	kindOf(t, "int", 5, math.MinInt)
	kindOf(t, "int64", math.MaxInt64, int64(-1))
	kindOf(t, "uint8", uint8(255), 7)
	kindOf(t, "bool", true, true)
	kindOf(t, "float64", math.Inf(-1), 0.5)
	kindOf(t, "complex128", 1+2i, -1i)
	kindOf(t, "string", "a", strings.Repeat("long", 1000))
	kindOf(t, "no field", struct{}{}, struct{}{})
	kindOf(t, "no element", [0]int{}, [0]int{})
	kindOf(t, "pointer", &one, &other)
	kindOf(t, "interface", any("a"), any(1))
	kindOf(t, "error", error(fault(3)), error(fault(4)))
	kindOf(t, "channel", make(chan int), make(chan int, 1))
	kindOf(t, "array", [3]string{"a", "", "b"}, [3]string{"c"})
	kindOf(t, "key", api.Key{Hour: 3, Dims: [4]string{"x"}}, api.Key{Hour: -3})
	kindOf(t, "fact", api.Fact{Value: 1}, api.Fact{Value: 2})
	kindOf(t, "job", api.Job{Kind: api.Build, Try: 2}, api.Job{At: 9})
	kindOf(t, "64 KiB and more", [1<<17 + 1]byte{0: 1, 1 << 17: 2}, [1<<17 + 1]byte{9: 9})
}

// fault: an error of the tests.
type fault int

func (f fault) Error() string { return strconv.Itoa(int(f)) }

func TestLists(t *testing.T) {
	q := of(t, 2, [][]int{{1, 2}, nil}, [][]int{{}})
	lane, x, is := q.Take()
	same(t, "the lane", lane, 0)
	same(t, "whether", is, true)
	tells(t, "a list", x, 1, 2)
	if x, is := q.From(0); !is || x != nil {
		t.Errorf("From of a nil list: %v, %v", x, is)
	}
	if l := q.Drain(1); len(l) != 1 || l[0] == nil || len(l[0]) != 0 {
		t.Errorf("Drain of an empty list: %v", l)
	}
}

func TestMapsAndFunctions(t *testing.T) {
	m := of(t, 1, []map[string]int{{"a": 1}})
	if x, is := m.From(0); !is || x["a"] != 1 || len(x) != 1 {
		t.Errorf("From of a map: %v, %v", x, is)
	}
	if x, is := m.From(0); is || x != nil {
		t.Errorf("From of an empty lane: %v, %v", x, is)
	}
	f := of(t, 1, []func() int{func() int { return 4 }})
	if lane, x, is := f.Take(); !is || lane != 0 || x() != 4 {
		t.Errorf("Take of a function: %v, %v", lane, is)
	}
	if lane, x, is := f.Take(); is || lane != 0 || x != nil {
		t.Errorf("Take of empty lanes: %v, %v", lane, is)
	}
}

// TestLanesOfLanes: lanes are things, too.
func TestLanesOfLanes(t *testing.T) {
	inner := of(t, 2, []int{1, 2})
	q := of(t, 1, []*Lanes[int]{inner}, []*Lanes[int]{nil})
	_, x, _ := q.Take()
	tells(t, "Drain of what was taken", x.Drain(0), 1, 2)
	lane, x, is := q.Take()
	same(t, "a nil thing", x, nil)
	same(t, "its lane", lane, 1)
	same(t, "whether", is, true)
}

// TestThingsAreCopied: what is put is the thing as it was then.
func TestThingsAreCopied(t *testing.T) {
	q, _ := New[[2]int](1, 3)
	x := [2]int{1, 2}
	putAll(t, q, 0, x)
	x[0] = 3
	putAll(t, q, 0, x)
	putAll(t, q, 0, x)
	x[0] = 4
	same(t, "From", fromOf(q, 0), got[[2]int]{[2]int{1, 2}, true})
	l := q.Drain(0)
	l[0][1] = 5
	tells(t, "Drain", l, [2]int{3, 5}, [2]int{3, 2})
	things := [][2]int{{6, 7}}
	same(t, "Put", q.Put(0, things[0]), api.OK)
	things[0][0] = 8
	tells(t, "Drain", q.Drain(0), [2]int{6, 7})
}

// --- what holds of all

func TestNil(t *testing.T) {
	var q *Lanes[string]
	for _, lane := range append(noLanes(8), 0, 1, 7) {
		same(t, "Put of nil", q.Put(lane, "a"), api.BadArg)
		same(t, "From of nil", fromOf(q, lane), got[string]{})
		same(t, "Len of nil", q.Len(lane), 0)
		tells(t, "Drain of nil", q.Drain(lane))
	}
	same(t, "Take of nil", takeOf(q), taken[string]{})
}

// TestZeroValue: lanes that no New made are none.
func TestZeroValue(t *testing.T) {
	var q Lanes[string]
	for _, lane := range append(noLanes(8), 0, 1, 7) {
		same(t, "Put", q.Put(lane, "a"), api.Range)
		same(t, "From", fromOf(&q, lane), got[string]{})
		same(t, "Len", q.Len(lane), 0)
		tells(t, "Drain", q.Drain(lane))
	}
	same(t, "Take", takeOf(&q), taken[string]{})
}

// TestOneLeavesTheOthers: whatever is done to a lane, the others are as they were.
func TestOneLeavesTheOthers(t *testing.T) {
	calls := []func(q *Lanes[int], lane int){
		func(q *Lanes[int], lane int) { q.Put(lane, 9) },
		func(q *Lanes[int], lane int) { q.From(lane) },
		func(q *Lanes[int], lane int) { q.Len(lane) },
		func(q *Lanes[int], lane int) { q.Drain(lane) },
	}
	for lane := range 8 {
		for n := range 4 {
			for _, call := range calls {
				var want [][]int
				for other := range 8 {
					want = append(want, count(10*other, (n+other)%4))
				}
				q := of(t, 3, want...)
				call(q, lane)
				for other := range 8 {
					if other != lane {
						same(t, "Len of another lane", q.Len(other), len(want[other]))
						tells(t, "another lane", q.Drain(other), want[other]...)
					}
				}
			}
		}
	}
}

// TestNobodyElseIsThere: no call leaves a goroutine behind, nor waits for one.
func TestNobodyElseIsThere(t *testing.T) {
	were := runtime.NumGoroutine()
	for range 100 {
		q := of(t, 2, []int{1, 2}, nil)
		q.Put(0, 3)
		q.From(1)
		q.Take()
		q.Drain(0)
		same(t, "goroutines", runtime.NumGoroutine(), were)
	}
}
