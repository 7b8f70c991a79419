package pile

import (
	"math"
	"math/bits"
	"slices"
	"strings"
	"testing"
)

// same fails the test where got is not what the chapter says.
func same[T comparable](t *testing.T, what string, got, want T) {
	t.Helper()
	if got != want {
		t.Errorf("%s: %v, not %v", what, got, want)
	}
}

// tells ends the test where a list is not what the chapter says: the lists behind a wrong one are most often wrong, too, and some are long.
func tells[T comparable](t *testing.T, what string, got []T, want ...T) {
	t.Helper()
	if !slices.Equal(got, want) {
		t.Fatalf("%s: %v, not %v", what, got, want)
	}
}

// got: what Pop and Top answer, to be compared at once.
type got[T comparable] struct {
	x  T
	is bool
}

func popOf[T comparable](p *Pile[T]) got[T] {
	x, is := p.Pop()
	return got[T]{x, is}
}

func topOf[T comparable](p *Pile[T]) got[T] {
	x, is := p.Top()
	return got[T]{x, is}
}

func rising(a, b int) bool { return a < b }

func falling(a, b int) bool { return a > b }

// of: a pile of things, pushed one by one.
func of[T any](less func(a, b T) bool, things ...T) *Pile[T] {
	p := New(less)
	for _, x := range things {
		p.Push(x)
	}
	return p
}

// popped: all things of a pile, popped one by one.
func popped[T any](p *Pile[T]) []T {
	var l []T
	for {
		x, is := p.Pop()
		if !is {
			return l
		}
		l = append(l, x)
	}
}

// marked: a thing whose order is by its rank alone; its name tells it from those that are equal.
type marked struct {
	rank int
	name int
}

func byRank(a, b marked) bool { return a.rank < b.rank }

// marks: a thing for each rank, named by its place.
func marks(ranks ...int) []marked {
	l := make([]marked, len(ranks))
	for i, r := range ranks {
		l[i] = marked{r, i}
	}
	return l
}

// inOrder: what must come out of a list: each thing put behind all that are not behind it.
func inOrder[T any](l []T, less func(a, b T) bool) []T {
	var out []T
	for _, x := range l {
		at := len(out)
		for at > 0 && less(x, out[at-1]) {
			at--
		}
		out = slices.Insert(out, at, x)
	}
	return out
}

// wild: n numbers from 0 to below, without a pattern, the same ones in each run.
func wild(n, below int) []int {
	l := make([]int, n)
	x := uint64(n)
	for i := range l {
		x = x*6364136223846793005 + 1442695040888963407
		l[i] = int(x>>33) % below
	}
	return l
}

// orders: all orders of things.
func orders[T any](things []T) [][]T {
	if len(things) == 0 {
		return [][]T{nil}
	}
	var l [][]T
	for i, x := range things {
		for _, rest := range orders(slices.Delete(slices.Clone(things), i, i+1)) {
			l = append(l, append([]T{x}, rest...))
		}
	}
	return l
}

// --- P701

func TestPushAndPop(t *testing.T) {
	p := of(rising, 5, 2, 9)
	same(t, "Len", p.Len(), 3)
	for i, want := range []int{2, 5, 9} {
		same(t, "Top", topOf(p), got[int]{want, true})
		same(t, "Len behind Top", p.Len(), 3-i)
		same(t, "Top, again", topOf(p), got[int]{want, true})
		same(t, "Pop", popOf(p), got[int]{want, true})
		same(t, "Len behind Pop", p.Len(), 2-i)
	}
	same(t, "Top of none", topOf(p), got[int]{})
	same(t, "Pop of none", popOf(p), got[int]{})
}

func TestPopAndTopOfNone(t *testing.T) {
	p := New(rising)
	for range 3 {
		same(t, "Pop", popOf(p), got[int]{})
		same(t, "Top", topOf(p), got[int]{})
		same(t, "Len", p.Len(), 0)
	}
	p.Push(7)
	same(t, "Top of what was pushed behind that", topOf(p), got[int]{7, true})
	same(t, "Len of it", p.Len(), 1)
}

func TestPopAndTopOfOne(t *testing.T) {
	for _, x := range []int{7, 0, -7, math.MinInt, math.MaxInt} {
		p := of(rising, x)
		same(t, "Len", p.Len(), 1)
		same(t, "Top", topOf(p), got[int]{x, true})
		same(t, "Pop", popOf(p), got[int]{x, true})
		same(t, "Len behind Pop", p.Len(), 0)
		same(t, "Top behind Pop", topOf(p), got[int]{})
		same(t, "Pop behind Pop", popOf(p), got[int]{})
	}
}

func TestEmptiedAndFilledAgain(t *testing.T) {
	p := New(byRank)
	for turn := range 5 {
		l := marks(3, 1, 2, 1, 3, 0)[turn:]
		for i, x := range l {
			p.Push(x)
			same(t, "Len", p.Len(), i+1)
		}
		for _, want := range inOrder(l, byRank) {
			same(t, "Top", topOf(p), got[marked]{want, true})
			same(t, "Pop", popOf(p), got[marked]{want, true})
		}
		same(t, "Len behind all Pops", p.Len(), 0)
		same(t, "Pop behind all Pops", popOf(p), got[marked]{})
		same(t, "Top behind all Pops", topOf(p), got[marked]{})
	}
}

func TestAThingOfZeroIsOne(t *testing.T) {
	p := of(func(a, b string) bool { return a < b }, "", "a", "")
	same(t, "Len", p.Len(), 3)
	same(t, "Top", topOf(p), got[string]{"", true})
	same(t, "Pop", popOf(p), got[string]{"", true})
	same(t, "Pop", popOf(p), got[string]{"", true})
	same(t, "Pop", popOf(p), got[string]{"a", true})
	same(t, "Pop", popOf(p), got[string]{"", false})
}

func TestEqualThingsComeAsTheyWerePushed(t *testing.T) {
	for many := range 40 {
		l := marks(make([]int, many)...)
		tells(t, "equal things", popped(of(byRank, l...)), l...)
		tells(t, "things in an order that has none ahead", popped(of(func(a, b marked) bool { return false }, l...)), l...)
	}
}

func TestEqualThingsWithOthersPushedAndPoppedBetween(t *testing.T) {
	p := of(byRank, marked{5, 1}, marked{1, 2}, marked{5, 3})
	same(t, "Pop", popOf(p), got[marked]{marked{1, 2}, true})
	p.Push(marked{5, 4})
	p.Push(marked{9, 5})
	same(t, "Pop", popOf(p), got[marked]{marked{5, 1}, true})
	p.Push(marked{5, 6})
	p.Push(marked{1, 7})
	p.Push(marked{9, 8})
	p.Push(marked{5, 9})
	same(t, "Pop", popOf(p), got[marked]{marked{1, 7}, true})
	same(t, "Pop", popOf(p), got[marked]{marked{5, 3}, true})
	p.Push(marked{5, 3}) // pushed again, it is the latest
	for _, want := range []marked{{5, 4}, {5, 6}, {5, 9}, {5, 3}, {9, 5}, {9, 8}} {
		same(t, "Top", topOf(p), got[marked]{want, true})
		same(t, "Pop", popOf(p), got[marked]{want, true})
	}
	same(t, "Len", p.Len(), 0)
}

func TestAQueueOfEqualThingsThatNeverEnds(t *testing.T) {
	for _, kept := range []int{1, 2, 3, 7, 8, 30} {
		p := New(byRank)
		for i := range 500 {
			p.Push(marked{4, i})
			if i >= kept {
				same(t, "Pop", popOf(p), got[marked]{marked{4, i - kept}, true})
			}
		}
		same(t, "Len", p.Len(), kept)
	}
}

func TestPushedInEachOrder(t *testing.T) {
	for _, ranks := range [][]int{{1, 2, 3, 4, 5, 6, 7}, {1, 1, 2, 2, 3, 3, 3}, {0, 0, 0, 0, 0, 1, 1}} {
		for _, l := range orders(ranks) {
			things := marks(l...)
			tells(t, "popped", popped(of(byRank, things...)), inOrder(things, byRank)...)
			tells(t, "popped, falling", popped(of(falling, l...)), inOrder(l, falling)...)
		}
	}
}

func TestEachStepAgainstTheModel(t *testing.T) {
	for _, ranks := range []int{1, 2, 5, 40, 1 << 20} {
		p := New(byRank)
		var want []marked
		throws := wild(2400, 1<<20)
		for i := 0; i < len(throws); i += 2 {
			pushes := i / 400 % 2 * 4 // more come than go, and then the other way round
			if throws[i]%10 < 7-pushes {
				x := marked{throws[i+1] % ranks, i}
				p.Push(x)
				want = inOrder(append(want, x), byRank)
			} else if len(want) == 0 {
				same(t, "Pop of none", popOf(p), got[marked]{})
			} else {
				same(t, "Pop", popOf(p), got[marked]{want[0], true})
				want = want[1:]
			}
			same(t, "Len", p.Len(), len(want))
			if len(want) == 0 {
				same(t, "Top of none", topOf(p), got[marked]{})
			} else {
				same(t, "Top", topOf(p), got[marked]{want[0], true})
			}
			if i%30 == 0 {
				tells(t, "Sorted", p.Sorted(), want...)
			}
		}
	}
}

func TestWhatIsPoppedIsNotKept(t *testing.T) {
	p := New(func(a, b *int) bool { return *a < *b })
	for i := range 50 {
		p.Push(&i)
	}
	for p.Len() > 0 {
		p.Pop()
		for _, spare := range p.list[p.Len():cap(p.list)] {
			if spare.thing != nil {
				t.Fatalf("with %d things left, one that was popped is kept", p.Len())
			}
		}
	}
}

func TestPilesAreApart(t *testing.T) {
	p, q := of(rising, 5, 2), of(rising, 9, 1)
	r := New(falling)
	p.Push(3)
	q.Pop()
	r.Push(4)
	r.Push(6)
	tells(t, "one pile", p.Sorted(), 2, 3, 5)
	tells(t, "another", q.Sorted(), 9)
	tells(t, "one in another order", r.Sorted(), 6, 4)
}

// --- P702

func TestSorted(t *testing.T) {
	tells(t, "Sorted of none", New(rising).Sorted())
	tells(t, "Sorted of one", of(rising, 7).Sorted(), 7)
	tells(t, "Sorted of some", of(rising, 5, 2, 9, 2, -1).Sorted(), -1, 2, 2, 5, 9)
	tells(t, "Sorted, falling", of(falling, 5, 2, 9, 2, -1).Sorted(), 9, 5, 2, 2, -1)
	emptied := of(rising, 5, 2)
	popped(emptied)
	tells(t, "Sorted of what was emptied", emptied.Sorted())
	l := marks(wild(3000, 60)...)
	p := of(byRank, l...)
	tells(t, "Sorted of many", p.Sorted(), inOrder(l, byRank)...)
	for range 1000 {
		p.Pop()
	}
	tells(t, "Sorted of what is left", p.Sorted(), inOrder(l, byRank)[1000:]...)
}

func TestThePileStaysBehindSorted(t *testing.T) {
	l := marks(3, 1, 2, 1, 3, 0, 2, 2)
	p := of(byRank, l...)
	want := inOrder(l, byRank)
	for i := range want {
		tells(t, "Sorted", p.Sorted(), want[i:]...)
		tells(t, "Sorted, again", p.Sorted(), want[i:]...)
		same(t, "Len behind Sorted", p.Len(), len(want)-i)
		same(t, "Top behind Sorted", topOf(p), got[marked]{want[i], true})
		same(t, "Pop behind Sorted", popOf(p), got[marked]{want[i], true})
	}
}

func TestThingsPushedBehindSorted(t *testing.T) {
	l := marks(2, 1, 2, 1, 3)
	p := New(byRank)
	for i, x := range l {
		p.Push(x)
		tells(t, "Sorted between Pushes", p.Sorted(), inOrder(l[:i+1], byRank)...)
	}
	tells(t, "popped behind them", popped(p), inOrder(l, byRank)...)
}

func TestSortedIsAnotherList(t *testing.T) {
	p := of(rising, 5, 2, 9, 7)
	one, two := p.Sorted(), p.Sorted()
	for i := range one {
		one[i] = 100
	}
	_ = append(one[:0:cap(one)], 1, 1, 1, 1)
	tells(t, "Sorted, told before another was changed", two, 2, 5, 7, 9)
	tells(t, "Sorted, told behind it", p.Sorted(), 2, 5, 7, 9)
	p.Push(1)
	p.Pop()
	p.Pop()
	tells(t, "Sorted, told before the pile was changed", two, 2, 5, 7, 9)
	tells(t, "popped", popped(p), 5, 7, 9)
	single := of(rising, 3)
	single.Sorted()[0] = 4
	same(t, "Pop of one whose list was changed", popOf(single), got[int]{3, true})
}

func TestSort(t *testing.T) {
	for _, c := range []struct{ l, want []int }{
		{nil, nil},
		{[]int{}, nil},
		{[]int{7}, []int{7}},
		{[]int{1, 2, 3, 4, 5}, []int{1, 2, 3, 4, 5}},
		{[]int{5, 4, 3, 2, 1}, []int{1, 2, 3, 4, 5}},
		{[]int{3, 1, 2}, []int{1, 2, 3}},
		{[]int{4, 4, 4, 4}, []int{4, 4, 4, 4}},
		{[]int{2, 1, 2, 1, 2}, []int{1, 1, 2, 2, 2}},
		{[]int{math.MaxInt, 0, math.MinInt, -1, 1}, []int{math.MinInt, -1, 0, 1, math.MaxInt}},
	} {
		was := slices.Clone(c.l)
		tells(t, "Sort", Sort(c.l, rising), c.want...)
		slices.Reverse(c.want)
		tells(t, "Sort, falling", Sort(c.l, falling), c.want...)
		tells(t, "the list that came in", c.l, was...)
	}
}

func TestSortKeepsEqualThingsAsTheyCame(t *testing.T) {
	for many := range 40 {
		l := marks(make([]int, many)...)
		tells(t, "Sort of equal things", Sort(l, byRank), l...)
	}
	for _, ranks := range orders([]int{1, 1, 1, 2, 2, 3, 3}) {
		l := marks(ranks...)
		tells(t, "Sort", Sort(l, byRank), inOrder(l, byRank)...)
	}
	for _, below := range []int{1, 2, 7, 100, 1 << 30} {
		l := marks(wild(2000, below)...)
		tells(t, "Sort of many", Sort(l, byRank), inOrder(l, byRank)...)
	}
}

func TestSortLeavesTheListThatCameIn(t *testing.T) {
	for many := range 20 {
		room := marks(wild(many+5, 4)...)
		was := slices.Clone(room)
		sorted := Sort(room[:many], byRank)
		tells(t, "the list that came in, with its spare room", room, was...)
		for i := range sorted {
			sorted[i] = marked{-1, -1}
		}
		_ = append(sorted, marked{-1, -1})
		tells(t, "the list that came in, behind a change of the other", room, was...)
		again := Sort(room[:many], byRank)
		for i := range room {
			room[i] = marked{-2, -2}
		}
		tells(t, "the other list, behind a change of the one that came in", again, inOrder(was[:many], byRank)...)
	}
}

// --- nil, and what is no order

func nothingComes(t *testing.T, what string, p *Pile[int]) {
	t.Helper()
	for range 3 {
		same(t, what+": Pop", popOf(p), got[int]{})
		same(t, what+": Top", topOf(p), got[int]{})
		same(t, what+": Len", p.Len(), 0)
		tells(t, what+": Sorted", p.Sorted())
		p.Push(5)
		p.Push(2)
	}
}

func TestNil(t *testing.T) {
	nothingComes(t, "a nil pile", nil)
	nothingComes(t, "a pile of a nil order", New[int](nil))
	nothingComes(t, "a pile of no order", &Pile[int]{})
	var texts *Pile[[]string]
	texts.Push([]string{"a"})
	x, is := texts.Pop()
	same(t, "Pop", x == nil && !is, true)
	x, is = texts.Top()
	same(t, "Top", x == nil && !is, true)
}

func TestSortOfANilOrder(t *testing.T) {
	for _, l := range [][]int{nil, {}, {1}, {3, 1, 2}} {
		was := slices.Clone(l)
		tells(t, "Sort", Sort(l, nil))
		tells(t, "the list that came in", l, was...)
	}
}

func TestWhatIsNoOrderEnds(t *testing.T) {
	coin := wild(64, 2)
	toss := 0
	for name, less := range map[string]func(a, b int) bool{
		"all ahead":       func(a, b int) bool { return true },
		"equal ahead":     func(a, b int) bool { return a <= b },
		"in a ring":       func(a, b int) bool { return (b-a+3)%3 == 1 },
		"by chance":       func(a, b int) bool { toss++; return coin[toss%len(coin)] == 1 },
		"turn about":      func(a, b int) bool { toss++; return toss%2 == 0 },
		"only neighbours": func(a, b int) bool { return a+1 == b },
	} {
		for many := range 60 {
			l := wild(many, 10)
			want := slices.Sorted(slices.Values(l))
			p := of(less, l...)
			tells(t, name+": Sorted, by numbers", inOrder(p.Sorted(), rising), want...)
			p.Top()
			tells(t, name+": popped, by numbers", inOrder(popped(p), rising), want...)
			tells(t, name+": Sort, by numbers", inOrder(Sort(l, less), rising), want...)
		}
	}
	none := math.NaN()
	p := of(func(a, b float64) bool { return a < b }, none, 1, none, -1)
	same(t, "things popped of numbers that are none", len(popped(p)), 4)
}

// --- P703

func TestManyThingsInSeveralOrders(t *testing.T) {
	const many = 50000
	up := make([]int, many)
	for i := range up {
		up[i] = i / 3
	}
	down := slices.Clone(up)
	slices.Reverse(down)
	inward := make([]int, many)
	for i := range inward {
		inward[i] = i / 2
		if i%2 == 1 {
			inward[i] = many - i/2
		}
	}
	for name, ranks := range map[string][]int{"rising": up, "falling": down, "inward": inward, "equal": make([]int, many), "mixed": wild(many, many), "few": wild(many, 3)} {
		l := marks(ranks...)
		want := slices.Clone(l)
		slices.SortStableFunc(want, func(a, b marked) int { return a.rank - b.rank })
		p := of(byRank, l...)
		same(t, name+": Len", p.Len(), many)
		same(t, name+": Sorted", slices.Equal(p.Sorted(), want), true)
		same(t, name+": popped", slices.Equal(popped(p), want), true)
		same(t, name+": Sort", slices.Equal(Sort(l, byRank), want), true)
	}
}

func TestAPileAsksItsOrderSeldom(t *testing.T) {
	asked := 0
	p := New(func(a, b int) bool { asked++; return a < b })
	inTime := func(what string, many int) {
		t.Helper()
		if asked > many {
			t.Fatalf("%s at %d things asked the order %d times, not %d", what, p.Len(), asked, many)
		}
		asked = 0
	}
	up := make([]int, 1000)
	for i := range up {
		up[i] = i
	}
	for _, l := range [][]int{up, inOrder(up, falling), wild(1000, 1000), make([]int, 1000)} {
		for _, x := range l {
			p.Push(x)
			inTime("Push", 2*bits.Len(uint(p.Len())))
			p.Top()
			inTime("Top", 0)
		}
		for p.Len() > 0 {
			p.Pop()
			inTime("Pop", 4*bits.Len(uint(p.Len())))
		}
	}
}

func TestThingsOfSeveralTypes(t *testing.T) {
	severally(t, []int8{-128, -1, 0, 1, 127}, func(a, b int8) bool { return a < b })
	severally(t, []uint64{0, 1, 1 << 63, math.MaxUint64}, func(a, b uint64) bool { return a < b })
	severally(t, []float64{math.Inf(-1), -1.5, 0, 1.5, math.Inf(1)}, func(a, b float64) bool { return a < b })
	severally(t, []string{"", "a", "aa", "b", "\xff"}, func(a, b string) bool { return a < b })
	severally(t, []bool{false, true}, func(a, b bool) bool { return !a && b })
	severally(t, [][2]int{{0, 9}, {1, 0}, {1, 1}, {2, -1}}, func(a, b [2]int) bool { return a[0] < b[0] || a[0] == b[0] && a[1] < b[1] })
	severally(t, []marked{{3, 1}, {2, 2}, {1, 3}}, func(a, b marked) bool { return a.name < b.name })
	one, two := 1, 2
	severally(t, []*int{nil, &one, &two}, func(a, b *int) bool { return b != nil && (a == nil || *a < *b) })
	severally(t, []any{nil, 1, "a", 2.5}, func(a, b any) bool { return place(a) < place(b) })
}

func place(x any) int {
	switch x.(type) {
	case nil:
		return 0
	case int:
		return 1
	case string:
		return 2
	}
	return 3
}

// severally: things, which rise, are pushed in each order, and come as they rise; half of them twice.
func severally[T comparable](t *testing.T, things []T, less func(a, b T) bool) {
	t.Helper()
	var twice []T
	for i, x := range things {
		if twice = append(twice, x); i%2 == 0 {
			twice = append(twice, x)
		}
	}
	for _, l := range orders(things) {
		p := of(less, l...)
		same(t, "Len", p.Len(), len(things))
		same(t, "Top", topOf(p), got[T]{things[0], true})
		tells(t, "Sorted", p.Sorted(), things...)
		tells(t, "Sort", Sort(l, less), things...)
		for i := 0; i < len(things); i += 2 {
			p.Push(things[i])
		}
		tells(t, "popped", popped(p), twice...)
		same(t, "Pop of none", popOf(p), got[T]{})
	}
}

func TestThingsThatCannotBeCompared(t *testing.T) {
	p := of(func(a, b []int) bool { return len(a) < len(b) }, []int{1, 2}, nil, []int{7})
	one := []int{7}
	tells(t, "Pop of a nil list", must(t, p))
	tells(t, "Pop", must(t, p), one...)
	tells(t, "Pop", must(t, p), 1, 2)
	calls := of(func(a, b func() string) bool { return a() < b() }, func() string { return "b" }, func() string { return "a" })
	var told strings.Builder
	for _, call := range calls.Sorted() {
		told.WriteString(call())
	}
	same(t, "Sorted of functions", told.String(), "ab")
}

// must: what Pop answers, where there is something.
func must[T any](t *testing.T, p *Pile[T]) T {
	t.Helper()
	x, is := p.Pop()
	same(t, "there is one", is, true)
	return x
}
