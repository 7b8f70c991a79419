package cell

import (
	"math"
	"math/big"
	"slices"
	"testing"

	"ossuary/api"
)

const (
	least    = math.MinInt64
	greatest = math.MaxInt64
	budget   = 1 << 62 // what values may weigh together
)

// same fails the test where got is not what the chapter says.
func same[T comparable](t *testing.T, what string, got, want T) {
	t.Helper()
	if got != want {
		t.Errorf("%s: %v, not %v", what, got, want)
	}
}

// answer: what Merge and All answer, to be compared at once.
type answer struct {
	cell api.Cell
	ok   bool
}

func mergeOf(a, b api.Cell) answer {
	c, ok := Merge(a, b)
	return answer{c, ok}
}

func allOf(values []int64) answer {
	c, ok := All(values)
	return answer{c, ok}
}

// number: what Weight and Mean answer, likewise.
type number struct {
	n  int64
	ok bool
}

func weightOf(values ...int64) number {
	n, ok := Weight(values)
	return number{n, ok}
}

func meanOf(c api.Cell) number {
	n, ok := Mean(c)
	return number{n, ok}
}

// far: numbers at the ends of their type, at halves of them, at what the limits name, and next to all of these.
func far() []int64 {
	l := []int64{least, least + 1, least + 2, greatest, greatest - 1, greatest - 2, 0, 1, -1, 3, -3, 7, -7}
	for _, power := range []int{1, 2, 7, 8, 31, 32, 53, 60, 61, 62} {
		n := int64(1) << power
		l = append(l, n-1, n, n+1, -n-1, -n, -n+1)
	}
	return l
}

// together: numbers as one, without a bound; false: no int64 holds it.
func together(numbers ...int64) (int64, bool) {
	whole := new(big.Int)
	for _, n := range numbers {
		whole.Add(whole, big.NewInt(n))
	}
	if !whole.IsInt64() {
		return 0, false
	}
	return whole.Int64(), true
}

// merged: what Merge answers by the chapter's words, of cells whose Counts are not 0.
func merged(a, b api.Cell) answer {
	count, counted := together(a.Count, b.Count)
	sum, summed := together(a.Sum, b.Sum)
	if !counted || !summed {
		return answer{}
	}
	c := api.Cell{Count: count, Sum: sum, Min: a.Min, Max: a.Max}
	if b.Min < c.Min {
		c.Min = b.Min
	}
	if b.Max > c.Max {
		c.Max = b.Max
	}
	return answer{c, true}
}

// wild: n numbers without a pattern, the same ones in each run, none of more bits than bits.
func wild(n, bits int) []int64 {
	l := make([]int64, n)
	x := uint64(n)
	for i := range l {
		x = x*6364136223846793005 + 1442695040888963407
		l[i] = int64(x) >> (63 - bits)
	}
	return l
}

// orders: all orders of values.
func orders(values []int64) [][]int64 {
	if len(values) == 0 {
		return [][]int64{nil}
	}
	var l [][]int64
	for i, v := range values {
		for _, rest := range orders(slices.Delete(slices.Clone(values), i, i+1)) {
			l = append(l, append([]int64{v}, rest...))
		}
	}
	return l
}

// --- P501

func TestOf(t *testing.T) {
	for _, v := range append(far(), wild(100, 63)...) {
		same(t, "Of", Of(v), api.Cell{Count: 1, Sum: v, Min: v, Max: v})
	}
}

func TestMerge(t *testing.T) {
	for _, c := range []struct{ a, b, want api.Cell }{
		{Of(3), Of(-1), api.Cell{Count: 2, Sum: 2, Min: -1, Max: 3}},
		{Of(-1), Of(3), api.Cell{Count: 2, Sum: 2, Min: -1, Max: 3}},
		{Of(5), Of(5), api.Cell{Count: 2, Sum: 10, Min: 5, Max: 5}},
		{Of(0), Of(0), api.Cell{Count: 2}},
		{api.Cell{Count: 2, Sum: 10, Min: 4, Max: 6}, api.Cell{Count: 3, Sum: 9, Min: 1, Max: 5}, api.Cell{Count: 5, Sum: 19, Min: 1, Max: 6}},
		{api.Cell{Count: 2, Sum: 10, Min: 1, Max: 9}, api.Cell{Count: 3, Sum: 12, Min: 3, Max: 5}, api.Cell{Count: 5, Sum: 22, Min: 1, Max: 9}},
		{api.Cell{Count: 2, Sum: -10, Min: -9, Max: -1}, api.Cell{Count: 4, Sum: -80, Min: -30, Max: -10}, api.Cell{Count: 6, Sum: -90, Min: -30, Max: -1}},
		{Of(least), Of(greatest), api.Cell{Count: 2, Sum: -1, Min: least, Max: greatest}},
		{Of(greatest), Of(least), api.Cell{Count: 2, Sum: -1, Min: least, Max: greatest}},
	} {
		same(t, "Merge", mergeOf(c.a, c.b), answer{c.want, true})
	}
}

func TestMergeOfCountZero(t *testing.T) {
	nones := []api.Cell{{}, {Sum: 7}, {Min: -7}, {Max: 7}, {Sum: 9, Min: -9, Max: 9}, {Sum: greatest, Min: least, Max: greatest}, {Sum: least, Min: greatest, Max: least}}
	others := []api.Cell{Of(0), Of(5), Of(-5), Of(least), Of(greatest), {Count: 3, Sum: 4, Min: -2, Max: 5}, {Count: greatest, Sum: greatest, Min: 1, Max: 2}, {Count: least, Sum: least, Min: 2, Max: 1}, {Count: -1}}
	for _, none := range nones {
		for _, other := range others {
			same(t, "Merge of Count 0 first", mergeOf(none, other), answer{other, true})
			same(t, "Merge of Count 0 second", mergeOf(other, none), answer{other, true})
		}
	}
	for _, a := range nones {
		for _, b := range nones {
			same(t, "Merge of Count 0 twice", mergeOf(a, b), answer{b, true})
		}
	}
}

func TestMergeOfSumsAtTheEnds(t *testing.T) {
	for _, c := range []struct {
		a, b, sum int64
		ok        bool
	}{
		{greatest - 1, 1, greatest, true}, {greatest, 1, 0, false}, {greatest - 1, 2, 0, false},
		{greatest, 0, greatest, true}, {greatest, -1, greatest - 1, true}, {greatest, greatest, 0, false},
		{least + 1, -1, least, true}, {least, -1, 0, false}, {least + 1, -2, 0, false},
		{least, 0, least, true}, {least, 1, least + 1, true}, {least, least, 0, false}, {least, greatest, -1, true},
		{1 << 62, 1<<62 - 1, greatest, true}, {1 << 62, 1 << 62, 0, false},
		{-1 << 62, -1 << 62, least, true}, {-1 << 62, -1<<62 - 1, 0, false},
	} {
		for _, l := range [][2]int64{{c.a, c.b}, {c.b, c.a}} {
			sums := mergeOf(api.Cell{Count: 1, Sum: l[0]}, api.Cell{Count: 1, Sum: l[1]})
			want := answer{api.Cell{Count: 2, Sum: c.sum}, true}
			if !c.ok {
				want = answer{}
			}
			same(t, "Merge of Sums", sums, want)
			if l[0] == 0 || l[1] == 0 { // another promise holds of a Count 0
				continue
			}
			counts := mergeOf(api.Cell{Count: l[0], Sum: 3, Min: -4, Max: 9}, api.Cell{Count: l[1], Sum: 4, Min: 2, Max: 5})
			want = answer{api.Cell{Count: c.sum, Sum: 7, Min: -4, Max: 9}, true}
			if !c.ok {
				want = answer{}
			}
			same(t, "Merge of Counts", counts, want)
		}
	}
}

func TestMergeOfCountAndSumBeyond(t *testing.T) {
	full := api.Cell{Count: greatest, Sum: greatest, Min: -1, Max: 1}
	same(t, "Merge, both beyond", mergeOf(full, full), answer{})
	same(t, "Merge, the Count beyond", mergeOf(full, Of(-1)), answer{})
	same(t, "Merge, the Sum beyond", mergeOf(full, api.Cell{Count: -1, Sum: 1, Min: 1, Max: 1}), answer{})
	same(t, "Merge, none beyond", mergeOf(full, api.Cell{Count: -1, Sum: -1, Min: -1, Max: -1}), answer{api.Cell{Count: greatest - 1, Sum: greatest - 1, Min: -1, Max: 1}, true})
}

func TestMergeOfAnyNumbers(t *testing.T) {
	l := far()
	for i, x := range l {
		for j, y := range l {
			a := api.Cell{Count: 1, Sum: x, Min: y, Max: x}
			b := api.Cell{Count: 1, Sum: y, Min: l[len(l)-1-i], Max: l[len(l)-1-j]}
			same(t, "Merge, of any Sums", mergeOf(a, b), merged(a, b))
			if x != 0 && y != 0 {
				a, b = api.Cell{Count: x, Sum: y}, api.Cell{Count: y, Sum: 5}
				same(t, "Merge, of any Counts", mergeOf(a, b), merged(a, b))
			}
		}
	}
	w := wild(4000, 63)
	for i := 0; i < len(w); i += 8 {
		a, b := api.Cell{Count: w[i], Sum: w[i+1], Min: w[i+2], Max: w[i+3]}, api.Cell{Count: w[i+4], Sum: w[i+5], Min: w[i+6], Max: w[i+7]}
		same(t, "Merge, of wild cells", mergeOf(a, b), merged(a, b))
	}
}

func TestAll(t *testing.T) {
	for _, c := range []struct {
		values []int64
		want   api.Cell
	}{
		{nil, api.Cell{}}, {[]int64{}, api.Cell{}},
		{[]int64{0}, api.Cell{Count: 1}}, {[]int64{0, 0, 0}, api.Cell{Count: 3}},
		{[]int64{3, -1}, api.Cell{Count: 2, Sum: 2, Min: -1, Max: 3}},
		{[]int64{7}, Of(7)}, {[]int64{-7}, Of(-7)}, {[]int64{least}, Of(least)}, {[]int64{greatest}, Of(greatest)},
		{[]int64{5, 5, 5}, api.Cell{Count: 3, Sum: 15, Min: 5, Max: 5}},
		{[]int64{4, 9, -6, 2, 0}, api.Cell{Count: 5, Sum: 9, Min: -6, Max: 9}},
		{[]int64{-4, -9, -6}, api.Cell{Count: 3, Sum: -19, Min: -9, Max: -4}},
		{[]int64{4, 9, 6}, api.Cell{Count: 3, Sum: 19, Min: 4, Max: 9}},
		{[]int64{least, greatest, 1}, api.Cell{Count: 3, Sum: 0, Min: least, Max: greatest}},
	} {
		same(t, "All", allOf(c.values), answer{c.want, true})
	}
}

func TestAllOfMany(t *testing.T) {
	values := wild(10000, 40)
	sum, _ := together(values...)
	want := api.Cell{Count: 10000, Sum: sum, Min: slices.Min(values), Max: slices.Max(values)}
	same(t, "All of many", allOf(values), answer{want, true})
}

func TestAllWhereAMergeIsFalse(t *testing.T) {
	for _, values := range [][]int64{
		{greatest, 1}, {least, -1}, {greatest, greatest}, {least, least},
		{greatest, 1, -1}, {least, -1, 1}, {greatest, 1, least}, {least, -1, greatest},
		{5, greatest, -5}, {-5, least, 5}, {0, greatest, 1, -1, 0}, {1 << 62, 1 << 62, -1 << 62, -1 << 62},
		{1, 2, 3, greatest}, {-1, -2, -3, least}, {greatest, 1, 1, 1, 1, 1}, {least, -1, greatest, 7, 7},
		{-1 << 62, -1 << 62, -1, 1},
	} {
		same(t, "All", allOf(values), answer{})
	}
}

func TestAllGoesFromTheFirstOn(t *testing.T) {
	for _, c := range []struct {
		values []int64
		sum    int64
	}{
		{[]int64{greatest, -1, 1}, greatest}, {[]int64{least, 1, -1}, least},
		{[]int64{1, -1, greatest}, greatest}, {[]int64{-5, greatest, 5}, greatest}, {[]int64{5, least, -5}, least},
		{[]int64{1 << 62, -1 << 62, 1 << 62, -1 << 62}, 0}, {[]int64{greatest, least, 1, greatest}, greatest},
	} {
		want := api.Cell{Count: int64(len(c.values)), Sum: c.sum, Min: slices.Min(c.values), Max: slices.Max(c.values)}
		same(t, "All", allOf(c.values), answer{want, true})
	}
}

func TestAllIsMergesFromTheFirstOn(t *testing.T) {
	for _, bits := range []int{8, 50, 60, 61, 62, 63} {
		values := wild(12, bits)
		want := answer{api.Cell{}, true}
		for i := range values {
			same(t, "All", allOf(values[:i]), want)
			if want.ok && i > 0 {
				want = merged(want.cell, Of(values[i]))
			} else if i == 0 {
				want = answer{Of(values[i]), true}
			}
		}
	}
}

// --- P502

func TestRight(t *testing.T) {
	for _, c := range []api.Cell{
		{}, {Count: 1}, Of(1), Of(-1), Of(least), Of(greatest),
		{Count: 2}, {Count: 2, Sum: 2, Min: -1, Max: 3}, {Count: 2, Sum: 6, Min: 3, Max: 3}, {Count: 2, Sum: -1, Min: least, Max: greatest},
		{Count: 3, Sum: 1, Min: 0, Max: 1}, {Count: greatest, Sum: greatest, Min: 1, Max: 1}, {Count: greatest, Sum: least, Min: least, Max: least + 1},
		{Count: 2, Sum: 100, Min: 1, Max: 2}, {Count: 2, Sum: -100, Min: 1, Max: 2}, // of the Sum the chapter says nothing but of Count 1
	} {
		same(t, "Right", Right(c), true)
	}
}

func TestRightOfCellsThatAreNot(t *testing.T) {
	for _, c := range []api.Cell{
		{Sum: 1}, {Sum: -1}, {Min: 1}, {Min: -1}, {Max: 1}, {Max: -1}, {Sum: 5, Min: 5, Max: 5}, {Sum: least}, {Min: least}, {Max: least}, {Min: -1, Max: 1},
		{Count: 1, Sum: 1}, {Count: 1, Min: 1}, {Count: 1, Max: 1}, {Count: 1, Min: -1}, {Count: 1, Min: -1, Max: 1}, {Count: 1, Sum: 5, Min: 5, Max: 6}, {Count: 1, Sum: 5, Min: 4, Max: 5},
		{Count: 1, Sum: 6, Min: 5, Max: 5}, {Count: 1, Sum: 4, Min: 5, Max: 5}, {Count: 1, Sum: 5, Min: 4, Max: 6}, {Count: 1, Sum: least, Min: least, Max: greatest},
		{Count: 2, Min: 1}, {Count: 2, Max: -1}, {Count: 2, Sum: 1, Min: 1, Max: 0}, {Count: 2, Sum: 7, Min: 4, Max: 3}, {Count: greatest, Min: greatest, Max: least}, {Count: 3, Min: greatest, Max: greatest - 1},
		{Count: -1}, {Count: -1, Sum: 5, Min: 5, Max: 5}, {Count: -1, Sum: -5, Min: -5, Max: -5}, {Count: -2, Sum: 4, Min: 1, Max: 3}, {Count: least}, {Count: least, Sum: 3, Min: 1, Max: 2}, {Count: least, Min: least, Max: greatest},
	} {
		same(t, "Right", Right(c), false)
	}
}

func TestRightNextToRightCells(t *testing.T) {
	for _, v := range far() {
		same(t, "Right of Of", Right(Of(v)), true)
		for _, by := range []int64{1, -1, least} {
			same(t, "Right of another Sum", Right(api.Cell{Count: 1, Sum: v + by, Min: v, Max: v}), false)
			same(t, "Right of another Min", Right(api.Cell{Count: 1, Sum: v, Min: v + by, Max: v}), false)
			same(t, "Right of another Max", Right(api.Cell{Count: 1, Sum: v, Min: v, Max: v + by}), false)
		}
		if v != 0 {
			same(t, "Right of no Count", Right(api.Cell{Sum: v, Min: v, Max: v}), false)
		}
		if v < greatest {
			same(t, "Right, Min below Max", Right(api.Cell{Count: 2, Min: v, Max: v + 1}), true)
			same(t, "Right, Min above Max", Right(api.Cell{Count: 2, Min: v + 1, Max: v}), false)
		}
		same(t, "Right, Min as Max", Right(api.Cell{Count: 2, Min: v, Max: v}), true)
		same(t, "Right of a Count", Right(api.Cell{Count: v, Sum: 5, Min: 5, Max: 5}), v > 0)
		same(t, "Right of a Count, of zeros", Right(api.Cell{Count: v}), v >= 0)
		same(t, "Right of a Count, of several", Right(api.Cell{Count: v, Sum: 5, Min: 2, Max: 3}), v > 1)
	}
}

func TestWeight(t *testing.T) {
	for _, c := range []struct {
		values []int64
		want   int64
	}{
		{nil, 0}, {[]int64{}, 0}, {[]int64{0}, 0}, {[]int64{0, 0}, 0}, {[]int64{5}, 5}, {[]int64{-5}, 5}, {[]int64{3, -1}, 4}, {[]int64{5, -5}, 10}, {[]int64{-5, -5, -1}, 11},
		{[]int64{budget}, budget}, {[]int64{-budget}, budget}, {[]int64{budget - 1}, budget - 1}, {[]int64{budget - 1, 1}, budget}, {[]int64{budget - 1, -1}, budget}, {[]int64{1, -budget + 1}, budget},
		{[]int64{budget, 0, 0}, budget}, {[]int64{0, -budget, 0}, budget}, {[]int64{-budget / 2, budget / 2}, budget}, {[]int64{-budget / 2, -budget / 2}, budget},
		{[]int64{1 << 60, -1 << 60, 1 << 60, -1 << 60}, budget}, {[]int64{1 << 60, -1 << 60, 1 << 60, -1<<60 + 1, -1}, budget},
	} {
		same(t, "Weight", weightOf(c.values...), number{c.want, true})
	}
}

func TestWeightAboveTheBudget(t *testing.T) {
	for _, values := range [][]int64{
		{budget + 1}, {-budget - 1}, {budget, 1}, {budget, -1}, {-budget, 1}, {1, budget}, {-1, -budget}, {budget, budget}, {-budget, budget}, {budget, 0, -1}, {budget / 2, -budget / 2, 1},
		{greatest}, {greatest, greatest}, {greatest, least}, {-greatest}, {greatest, 1}, {1, greatest}, {greatest, greatest, 2},
		{least}, {least, 0}, {0, least}, {least, least}, {1, least}, {-1, least}, {least, least, 5}, {least + 1}, {least, greatest, 1}, {least, 1, 2, 3}, {budget, least}, {least, budget},
		{budget, budget, budget, budget}, {budget, budget, budget, budget, 7}, {-budget, -budget, -budget, -budget, -7}, {1 << 60, -1 << 60, 1 << 60, -1 << 60, 1},
	} {
		same(t, "Weight", weightOf(values...), number{})
	}
}

// weighed: what Weight answers, by the chapter's words.
func weighed(values []int64) number {
	whole := new(big.Int)
	for _, v := range values {
		whole.Add(whole, new(big.Int).Abs(big.NewInt(v)))
	}
	if whole.Cmp(big.NewInt(budget)) > 0 {
		return number{}
	}
	return number{whole.Int64(), true}
}

func TestWeightOfAnyNumbers(t *testing.T) {
	for _, x := range far() {
		for _, y := range far() {
			same(t, "Weight of any two", weightOf(x, y), weighed([]int64{x, y}))
			same(t, "Weight of any three", weightOf(x, 1, y), weighed([]int64{x, 1, y}))
		}
	}
	for _, bits := range []int{10, 50, 56, 57, 58, 59, 60, 63} {
		values := wild(50, bits)
		for i := range values {
			same(t, "Weight of wild numbers", weightOf(values[:i]...), weighed(values[:i]))
		}
	}
}

func TestMean(t *testing.T) {
	for _, c := range []struct{ sum, count, want int64 }{
		{0, 1, 0}, {0, 7, 0}, {6, 2, 3}, {7, 2, 3}, {-6, 2, -3}, {-7, 2, -4}, {-3, 2, -2}, {-1, 2, -1}, {1, 2, 0}, {-1, 3, -1}, {-2, 3, -1}, {-3, 3, -1}, {-4, 3, -2}, {-5, 3, -2}, {-6, 3, -2},
		{8, 3, 2}, {9, 3, 3}, {10, 3, 3}, {5, 1, 5}, {-5, 1, -5}, {2, 3, 0}, {-2, greatest, -1}, {-1, greatest, -1}, {1, greatest, 0},
		{greatest, 1, greatest}, {least, 1, least}, {greatest, 2, 1<<62 - 1}, {least, 2, -1 << 62}, {least + 1, 2, -1 << 62}, {least, 3, -3074457345618258603},
		{greatest, greatest, 1}, {least, greatest, -2}, {-greatest, greatest, -1}, {greatest - 1, greatest, 0}, {-greatest + 1, greatest, -1},
	} {
		same(t, "Mean", meanOf(api.Cell{Count: c.count, Sum: c.sum}), number{c.want, true})
	}
}

func TestMeanOfNone(t *testing.T) {
	for _, count := range []int64{0, -1, -2, -1 << 32, least, least + 1} {
		for _, sum := range []int64{0, 1, -1, 6, -6, greatest, least} {
			same(t, "Mean", meanOf(api.Cell{Count: count, Sum: sum, Min: 2, Max: 3}), number{})
		}
	}
}

func TestMeanOfAnyNumbers(t *testing.T) {
	for _, sum := range append(far(), wild(50, 63)...) {
		for _, count := range append(far(), wild(50, 6)...) {
			got := meanOf(api.Cell{Count: count, Sum: sum, Min: greatest, Max: least})
			if count < 1 {
				same(t, "Mean of no Count", got, number{})
				continue
			}
			below := new(big.Int).Mul(big.NewInt(got.n), big.NewInt(count))
			left := new(big.Int).Sub(big.NewInt(sum), below) // rounded down: 0 or more is left, and less than Count
			if !got.ok || left.Sign() < 0 || left.Cmp(big.NewInt(count)) >= 0 {
				t.Errorf("Mean of %d by %d: %v", sum, count, got)
			}
		}
	}
}

// --- P503

func TestMergingGoesInAnyOrder(t *testing.T) {
	for _, values := range [][]int64{
		{3, -1, 4, -1, 5}, {0, 0, 0, 0, 1}, {least + 10, 1, 2, 3, 4}, {greatest - 10, 1, 2, 3, 4}, {1 << 60, -1 << 60, 1 << 60, -1 << 60, 7}, wild(5, 60),
	} {
		want := allOf(values)
		same(t, "All: is there a cell", want.ok, true)
		for _, l := range orders(values) {
			same(t, "All, in another order", allOf(l), want)
			for cut := range len(l) + 1 {
				same(t, "Merge of two parts", mergeOf(allOf(l[:cut]).cell, allOf(l[cut:]).cell), want)
			}
		}
	}
}

func TestMergeEitherWayRound(t *testing.T) {
	var cells []api.Cell
	for _, x := range far() {
		cells = append(cells, Of(x), api.Cell{Count: x, Sum: 9, Min: -4, Max: 6}, api.Cell{Count: 3, Sum: 1 - x, Min: x, Max: greatest})
	}
	for _, a := range cells {
		for _, b := range cells {
			if a.Count != 0 || b.Count != 0 {
				same(t, "Merge, the other way round", mergeOf(b, a), mergeOf(a, b))
			}
		}
	}
}

func TestMergeOfThree(t *testing.T) {
	w := wild(3*500, 61)
	for i := 0; i < len(w); i += 3 {
		a, b, c := Of(w[i]), Of(w[i+1]), Of(w[i+2])
		left := mergeOf(mergeOf(a, b).cell, c)
		right := mergeOf(a, mergeOf(b, c).cell)
		same(t, "Merge of three", left, right)
		same(t, "Merge of three, as All", left, allOf(w[i:i+3]))
	}
}

func TestValuesWithinTheBudgetHaveACell(t *testing.T) {
	for _, values := range [][]int64{
		nil, {0}, {budget}, {-budget}, {budget - 1, -1}, {-budget / 2, budget / 2}, {-budget / 2, -budget / 2}, {1 << 60, 1 << 60, 1 << 60, 1 << 60}, {-1 << 60, -1 << 60, -1 << 60, -1 << 60}, {1 << 60, -1 << 60, -1 << 60, 1 << 60},
	} {
		for _, l := range orders(values) {
			same(t, "Weight: at most the budget", weightOf(l...).ok, true)
			got := allOf(l)
			sum, _ := together(l...)
			same(t, "All: is there a cell", got.ok, true)
			same(t, "All: Count", got.cell.Count, int64(len(l)))
			same(t, "All: Sum", got.cell.Sum, sum)
		}
	}
}

func TestCellsOfValuesAreRight(t *testing.T) {
	for _, bits := range []int{1, 20, 50} {
		values := wild(200, bits)
		for i := range values {
			got := allOf(values[:i])
			same(t, "All: is there a cell", got.ok, true)
			same(t, "Right of All", Right(got.cell), true)
			if mean := meanOf(got.cell); i > 0 && (mean.n < got.cell.Min || mean.n > got.cell.Max) {
				t.Errorf("Mean: %v, of %v", mean, got.cell)
			}
		}
	}
}

// --- what is handed in

func TestNothingThatIsHandedInChanges(t *testing.T) {
	for _, values := range [][]int64{{3, -1, 2}, {greatest, 1, -1}, {least, 0, 5}, {budget, 1, 1}} {
		room := append(slices.Clone(values), 77, 78, 79)
		kept := slices.Clone(room)
		handed := room[:len(values)]
		first, weight := allOf(handed), weightOf(handed...)
		if !slices.Equal(room, kept) {
			t.Errorf("All or Weight changed %v into %v", kept, room)
		}
		same(t, "All, once more", allOf(handed), first)
		same(t, "Weight, once more", weightOf(handed...), weight)
	}
}
