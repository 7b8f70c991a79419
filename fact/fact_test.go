package fact

import (
	"math"
	"slices"
	"strconv"
	"strings"
	"testing"

	"ossuary/api"
)

const (
	least    = math.MinInt64
	greatest = math.MaxInt64
)

// same fails the test where got is not what the chapter says.
func same[T comparable](t *testing.T, what string, got, want T) {
	t.Helper()
	if got != want {
		t.Errorf("%s: %v, not %v", what, got, want)
	}
}

// tells: likewise, of lists.
func tells[T comparable](t *testing.T, what string, got, want []T) {
	t.Helper()
	if !slices.Equal(got, want) {
		t.Errorf("%s: %v, not %v", what, got, want)
	}
}

// found: what All answers, to be compared at once.
type found struct {
	fault api.Fault
	place int
}

func allOf(l []api.Fact, dims int) found {
	fault, place := All(l, dims)
	return found{fault, place}
}

// weight: what Weight answers, likewise.
type weight struct {
	n  int64
	ok bool
}

func weightOf(l []api.Fact) weight {
	n, ok := Weight(l)
	return weight{n, ok}
}

func keyOf(hour int64, texts ...string) api.Key {
	k := api.Key{Hour: hour}
	copy(k.Dims[:], texts)
	return k
}

func factOf(hour, value int64, texts ...string) api.Fact {
	return api.Fact{Key: keyOf(hour, texts...), Value: value}
}

// withText: a fact that is right but for what that dimension's value may be.
func withText(dim int, s string) api.Fact {
	f := factOf(7, 8)
	f.Key.Dims[dim] = s
	return f
}

// times: a list of n facts that are alike.
func times(n int, f api.Fact) []api.Fact {
	l := make([]api.Fact, n)
	for i := range l {
		l[i] = f
	}
	return l
}

// withValues: a fact of each value.
func withValues(values ...int64) []api.Fact {
	l := make([]api.Fact, len(values))
	for i, v := range values {
		l[i].Value = v
	}
	return l
}

// withHours: a fact of each hour, no two of them with one value.
func withHours(hours ...int64) []api.Fact {
	l := make([]api.Fact, len(hours))
	for i, h := range hours {
		l[i] = factOf(h, int64(i))
	}
	return l
}

// stir hands out numbers from 0 to below, without a pattern, the same ones in each run.
func stir(seed uint64) func(below int) int {
	return func(below int) int {
		seed = seed*6364136223846793005 + 1442695040888963407
		return int(seed>>33) % below
	}
}

// some: facts that are right for so many dimensions, without a pattern; of few hours, texts and values, so that many are alike.
func some(n, dims int, seed uint64) []api.Fact {
	throw := stir(seed)
	hours := []int64{0, 1, 2, 127, 128, api.MaxHour - 1, api.MaxHour}
	texts := []string{"", "a", "ab", "b", "\x7f", "\x80", "\xff\x00", "€", strings.Repeat("z", api.MaxText)}
	values := []int64{0, 1, -1, 63, 64, -64, -65, api.MaxValue, -api.MaxValue}
	l := make([]api.Fact, n)
	for i := range l {
		l[i] = factOf(hours[throw(len(hours))], values[throw(len(values))])
		for d := range dims {
			l[i].Key.Dims[d] = texts[throw(len(texts))]
		}
	}
	return l
}

// roomy: the list with spare room behind it, and a check that neither changed.
func roomy(t *testing.T, l []api.Fact) ([]api.Fact, func(what string)) {
	whole := append(slices.Clone(l), times(3, factOf(-9, -9, "spare"))...)
	kept := slices.Clone(whole)
	return whole[:len(l)], func(what string) {
		t.Helper()
		tells(t, what+": what was handed in", whole, kept)
	}
}

// orders: all orders of a list's facts.
func orders(l []api.Fact) [][]api.Fact {
	if len(l) == 0 {
		return [][]api.Fact{nil}
	}
	var all [][]api.Fact
	for i, f := range l {
		for _, rest := range orders(slices.Concat(l[:i], l[i+1:])) {
			all = append(all, append([]api.Fact{f}, rest...))
		}
	}
	return all
}

// --- P901 Compare

// textSign: how two texts stand by their bytes, one after the other.
func textSign(a, b string) int {
	for i := 0; i < len(a) && i < len(b); i++ {
		if a[i] != b[i] {
			return sign(int(a[i]) < int(b[i]))
		}
	}
	if len(a) == len(b) {
		return 0
	}
	return sign(len(a) < len(b))
}

func sign(ahead bool) int {
	if ahead {
		return -1
	}
	return 1
}

// keySign: how two keys stand by the chapter's words.
func keySign(a, b api.Key) int {
	if a.Hour != b.Hour {
		return sign(a.Hour < b.Hour)
	}
	for i := range api.Dims {
		if c := textSign(a.Dims[i], b.Dims[i]); c != 0 {
			return c
		}
	}
	return 0
}

// compares: Compare's answer, and the other one the other way round.
func compares(t *testing.T, what string, a, b api.Key, want int) {
	t.Helper()
	same(t, what, Compare(a, b), want)
	same(t, what+", the other way round", Compare(b, a), -want)
}

func TestCompareOfKeysThatDifferInOnePlace(t *testing.T) {
	base := keyOf(5, "k", "l", "m", "n")
	compares(t, "alike", base, base, 0)
	compares(t, "no hour and no text", api.Key{}, api.Key{}, 0)
	for _, hour := range []int64{least, least + 1, -5, -1, 0, 4} {
		other := base
		other.Hour = hour
		compares(t, "hour "+strconv.FormatInt(hour, 10), other, base, -1)
	}
	for _, hour := range []int64{6, api.MaxHour, api.MaxHour + 1, greatest - 1, greatest} {
		other := base
		other.Hour = hour
		compares(t, "hour "+strconv.FormatInt(hour, 10), other, base, 1)
	}
	compares(t, "the ends of hours", keyOf(least), keyOf(greatest), -1)
	for i := range api.Dims {
		for _, c := range []struct {
			text string
			want int
		}{{"", -1}, {"a", -1}, {"K", -1}, {"z", 1}, {"\xff", 1}, {base.Dims[i] + "\x00", 1}} {
			other := base
			other.Dims[i] = c.text
			compares(t, "dimension "+strconv.Itoa(i)+" "+strconv.Quote(c.text), other, base, c.want)
		}
	}
}

// Place 0 is the hour, the others are the dimensions.
func TestCompareOfKeysThatDifferInTwoPlaces(t *testing.T) {
	set := func(k *api.Key, place int, high bool) {
		n, s := int64(3), "c"
		if high {
			n, s = 4, "d"
		}
		if place == 0 {
			k.Hour = n
		} else {
			k.Dims[place-1] = s
		}
	}
	for first := range api.Dims + 1 {
		for then := first + 1; then <= api.Dims; then++ {
			a, b := keyOf(3, "x", "x", "x", "x"), keyOf(3, "x", "x", "x", "x")
			set(&a, first, false)
			set(&b, first, true)
			set(&a, then, true)
			set(&b, then, false)
			compares(t, "places "+strconv.Itoa(first)+" and "+strconv.Itoa(then), a, b, -1)
		}
	}
}

func TestCompareOfTexts(t *testing.T) {
	for _, c := range []struct{ low, high string }{
		{"", "a"}, {"", "\x00"}, {"a", "ab"}, {"a", "a\x00"}, {"ab", "b"}, {"aZ", "aa"}, {"10", "9"}, {"abc", "abd"},
		{"\x7f", "\x80"}, {"\x80", "\xff"}, {"z", "é"}, {"a\x7f", "a\x80"}, {"a\xff", "b"}, {"\xc3", "é"}, {"€", "\xff"},
		{"\uffff", "\U00010000"}, {strings.Repeat("a", 16), strings.Repeat("a", 17)},
	} {
		for i := range api.Dims {
			a, b := api.Key{}, api.Key{}
			a.Dims[i], b.Dims[i] = c.low, c.high
			compares(t, strconv.Quote(c.low)+" and "+strconv.Quote(c.high), a, b, -1)
		}
	}
	compares(t, "cut at another place", keyOf(0, "a", "bc"), keyOf(0, "ab", "c"), -1)
	compares(t, "a text one place further on", keyOf(0, "", "a"), keyOf(0, "a", ""), -1)
}

func TestCompareOfAllPairs(t *testing.T) {
	texts := []string{"", "a", "ab", "\xff"}
	var keys []api.Key
	for n := range 2 * 256 {
		k := api.Key{Hour: int64(n>>8) - 1}
		for i := range k.Dims {
			k.Dims[i] = texts[n>>(2*i)&3]
		}
		keys = append(keys, k)
	}
	for _, a := range keys {
		for _, b := range keys {
			if got, want := Compare(a, b), keySign(a, b); got != want {
				t.Fatalf("Compare(%v, %v): %d, not %d", a, b, got, want)
			}
		}
	}
}

// --- P901 Check

// wrongDims: numbers of dimensions that no fact has.
func wrongDims() []int {
	return []int{0, api.Dims + 1, api.Dims + 2, -1, -2, -api.Dims, math.MinInt, math.MaxInt, 1 << 32, 1<<32 + 1, 257}
}

func TestCheckOfDims(t *testing.T) {
	for dims := 1; dims <= api.Dims; dims++ {
		same(t, "Check for "+strconv.Itoa(dims), Check(factOf(5, 6), dims), api.OK)
	}
	for _, dims := range wrongDims() {
		same(t, "Check for "+strconv.Itoa(dims), Check(factOf(5, 6), dims), api.BadArg)
		same(t, "Check of nothing for "+strconv.Itoa(dims), Check(api.Fact{}, dims), api.BadArg)
	}
}

func TestCheckOfHoursAndValues(t *testing.T) {
	for _, c := range []struct {
		what        string
		least, most int64
		set         func(f *api.Fact, n int64)
	}{
		{"hour ", 0, 1 << 24, func(f *api.Fact, n int64) { f.Key.Hour = n }},
		{"value ", -1 << 60, 1 << 60, func(f *api.Fact, n int64) { f.Value = n }},
	} {
		for _, n := range []int64{0, 1, 2, -1, -2, c.most - 1, c.most, c.most + 1, c.most + 2, 1 - c.most, -c.most, -c.most - 1, -c.most - 2, 2 * c.most, 1 << 32, 1 << 61, 1 << 62, -1 << 62, least, least + 1, greatest, greatest - 1} {
			want := api.OK
			if n < c.least || n > c.most {
				want = api.Range
			}
			for dims := 1; dims <= api.Dims; dims++ {
				f := factOf(3, 4, "a")
				c.set(&f, n)
				same(t, c.what+strconv.FormatInt(n, 10), Check(f, dims), want)
			}
		}
	}
}

func TestCheckOfTexts(t *testing.T) {
	for dims := 1; dims <= api.Dims; dims++ {
		for i := range api.Dims {
			for _, n := range []int{0, 1, 2, api.MaxText - 1, api.MaxText, api.MaxText + 1, api.MaxText + 2, 255, 256, 257, 272, 1 << 16} {
				want := api.OK
				if n > api.MaxText || n > 0 && i >= dims {
					want = api.Malformed
				}
				what := strconv.Itoa(n) + " bytes in dimension " + strconv.Itoa(i) + " of " + strconv.Itoa(dims)
				same(t, what, Check(withText(i, strings.Repeat("x", n)), dims), want)
			}
		}
	}
}

func TestCheckCountsBytesAndTakesEachByte(t *testing.T) {
	for _, c := range []struct {
		text string
		want api.Fault
	}{
		{strings.Repeat("€", 5), api.OK},
		{strings.Repeat("€", 5) + "x", api.OK},
		{strings.Repeat("€", 6), api.Malformed},
		{strings.Repeat("é", 8), api.OK},
		{strings.Repeat("é", 9), api.Malformed},
		{strings.Repeat("\xff", 16), api.OK},
		{strings.Repeat("\x00", 16), api.OK},
		{strings.Repeat("\x00", 17), api.Malformed},
		{" \n\t", api.OK},
	} {
		for i := range api.Dims {
			same(t, strconv.Quote(c.text), Check(withText(i, c.text), api.Dims), c.want)
		}
	}
	for i := 1; i < api.Dims; i++ {
		same(t, "a byte 0 where no value may be", Check(withText(i, "\x00"), i), api.Malformed)
	}
}

func TestCheckOfAllDimensionsAtOnce(t *testing.T) {
	full := strings.Repeat("m", api.MaxText)
	same(t, "all as long as they may be", Check(factOf(api.MaxHour, -api.MaxValue, full, full, full, full), api.Dims), api.OK)
	same(t, "each longer by one", Check(factOf(1, 1, full+"m", full+"m", full+"m", full+"m"), api.Dims), api.Malformed)
	same(t, "gaps", Check(factOf(1, 1, "", "b", "", "d"), api.Dims), api.OK)
	same(t, "a gap, and one too many", Check(factOf(1, 1, "", "b", "", "d"), 3), api.Malformed)
}

// Each choice of what may be wrong: the fault that the chapter names first.
func TestCheckTellsTheFirstOfItsFaults(t *testing.T) {
	for choice := range 32 {
		f, dims, want := factOf(1, 1, "a", "b"), 2, api.OK
		if choice&1 != 0 {
			f.Key.Dims[3] = "beyond"
			want = api.Malformed
		}
		if choice&2 != 0 {
			f.Key.Dims[0] = strings.Repeat("a", api.MaxText+1)
			want = api.Malformed
		}
		if choice&4 != 0 {
			f.Value = api.MaxValue + 1
			want = api.Range
		}
		if choice&8 != 0 {
			f.Key.Hour = -1
			want = api.Range
		}
		if choice&16 != 0 {
			dims = 0
			want = api.BadArg
		}
		same(t, "choice "+strconv.Itoa(choice), Check(f, dims), want)
	}
}

// --- P901 All

// wrong: a fact of each kind that is not right for two dimensions, and why.
func wrong() []struct {
	fact  api.Fact
	fault api.Fault
} {
	return []struct {
		fact  api.Fact
		fault api.Fault
	}{
		{factOf(-1, 1, "a"), api.Range},
		{factOf(api.MaxHour+1, 1, "a"), api.Range},
		{factOf(1, api.MaxValue+1, "a"), api.Range},
		{factOf(1, -api.MaxValue-1, "a"), api.Range},
		{factOf(1, 1, "a", strings.Repeat("b", api.MaxText+1)), api.Malformed},
		{factOf(1, 1, "a", "b", "c"), api.Malformed},
		{factOf(1, 1, "a", "b", "", "d"), api.Malformed},
	}
}

func TestAllOfEachLength(t *testing.T) {
	for n := range 3*api.MaxBatch + 1 {
		for dims := 1; dims <= api.Dims; dims++ {
			want := found{}
			if n == 0 || n > api.MaxBatch {
				want.fault = api.BadArg
			}
			same(t, "All of "+strconv.Itoa(n), allOf(times(n, factOf(1, 2, "a")), dims), want)
		}
	}
	same(t, "All of nil", allOf(nil, 1), found{api.BadArg, 0})
	same(t, "All of 256 and one", allOf(times(257, factOf(1, 2)), 1), found{api.BadArg, 0})
}

func TestAllOfWrongDims(t *testing.T) {
	bad := append(times(3, factOf(1, 2)), factOf(-1, 2))
	for _, dims := range wrongDims() {
		for _, l := range [][]api.Fact{nil, times(1, factOf(1, 2)), times(api.MaxBatch, factOf(1, 2)), times(api.MaxBatch+1, factOf(1, 2)), bad} {
			same(t, "All for "+strconv.Itoa(dims), allOf(l, dims), found{api.BadArg, 0})
		}
	}
}

func TestAllTellsTheFirstWrongFact(t *testing.T) {
	for _, w := range wrong() {
		for n := 1; n <= api.MaxBatch; n++ {
			for place := range n {
				l := times(n, factOf(1, 2, "a", "b"))
				l[place] = w.fact
				same(t, "one of "+strconv.Itoa(n)+" at "+strconv.Itoa(place), allOf(l, 2), found{w.fault, place})
			}
		}
	}
}

func TestAllOfTwoWrongFacts(t *testing.T) {
	for _, first := range wrong() {
		for _, then := range wrong() {
			for _, places := range [][2]int{{0, 1}, {0, 49}, {1, 2}, {24, 25}, {24, 49}, {48, 49}} {
				l := times(api.MaxBatch, factOf(1, 2, "a", "b"))
				l[places[0]], l[places[1]] = first.fact, then.fact
				same(t, "two of "+strconv.Itoa(api.MaxBatch), allOf(l, 2), found{first.fault, places[0]})
			}
		}
	}
}

func TestAllOfTooManyOfWhichOneIsWrong(t *testing.T) {
	for _, w := range wrong() {
		for _, place := range []int{0, 25, api.MaxBatch - 1, api.MaxBatch} {
			l := times(api.MaxBatch+1, factOf(1, 2, "a", "b"))
			l[place] = w.fact
			same(t, "too many", allOf(l, 2), found{api.BadArg, 0})
		}
	}
}

// A fact may be right for more dimensions, and wrong for fewer.
func TestAllHangsOnDims(t *testing.T) {
	l := []api.Fact{factOf(1, 2, "a"), factOf(1, 2, "a", "b"), factOf(1, 2, "a", "b", "c"), factOf(1, 2, "a", "b", "c", "d")}
	for dims := 1; dims < api.Dims; dims++ {
		same(t, "All for "+strconv.Itoa(dims), allOf(l, dims), found{api.Malformed, dims})
	}
	same(t, "All for all", allOf(l, api.Dims), found{})
}

func TestAllOfFactsThatAreRight(t *testing.T) {
	for dims := 1; dims <= api.Dims; dims++ {
		for n := 1; n <= api.MaxBatch; n++ {
			l, unchanged := roomy(t, some(n, dims, uint64(n)))
			same(t, "All of some", allOf(l, dims), found{})
			unchanged("All")
		}
	}
}

// --- P901 Weight

func TestWeight(t *testing.T) {
	for _, c := range []struct {
		what string
		l    []api.Fact
		want weight
	}{
		{"none", nil, weight{0, true}},
		{"nothing", withValues(0, 0, 0), weight{0, true}},
		{"one", withValues(5), weight{5, true}},
		{"one below nothing", withValues(-5), weight{5, true}},
		{"both ways", withValues(5, -5, 3, -1), weight{14, true}},
		{"as much as it may be", withValues(api.MaxValue, -api.MaxValue, api.MaxValue, -api.MaxValue), weight{api.MaxBudget, true}},
		{"one more", withValues(api.MaxValue, -api.MaxValue, api.MaxValue, -api.MaxValue, 1), weight{0, false}},
		{"one more below nothing", withValues(-api.MaxValue, -api.MaxValue, -api.MaxValue, -api.MaxValue, -1), weight{0, false}},
		{"one less", withValues(api.MaxValue, api.MaxValue, api.MaxValue, api.MaxValue-1), weight{api.MaxBudget - 1, true}},
		{"too much, and then back", withValues(api.MaxBudget, 1, -1, -api.MaxBudget), weight{0, false}},
		{"a batch that weighs too much", withValues(slices.Repeat([]int64{api.MaxValue}, api.MaxBatch)...), weight{0, false}},
		{"2^63 together", withValues(slices.Repeat([]int64{-api.MaxValue}, 8)...), weight{0, false}},
		{"2^64 together", withValues(slices.Repeat([]int64{api.MaxValue}, 16)...), weight{0, false}},
		{"the least", withValues(least), weight{0, false}},
		{"the least, twice", withValues(least, least), weight{0, false}},
		{"the greatest", withValues(greatest), weight{0, false}},
		{"the budget alone", withValues(-api.MaxBudget), weight{api.MaxBudget, true}},
		{"more than a batch", withValues(slices.Repeat([]int64{-3}, 1000)...), weight{3000, true}},
	} {
		same(t, c.what, weightOf(c.l), c.want)
	}
}

func TestWeightHangsOnValuesAlone(t *testing.T) {
	l, unchanged := roomy(t, []api.Fact{factOf(9, 3, "a"), factOf(least, -4, strings.Repeat("b", 99)), factOf(9, 3, "a"), factOf(greatest, 0)})
	same(t, "wrong facts, and alike ones", weightOf(l), weight{10, true})
	unchanged("Weight")
}

// --- P901 Hours

func TestHours(t *testing.T) {
	for _, c := range []struct {
		what  string
		hours []int64
		want  []int64
	}{
		{"none", nil, nil},
		{"one", []int64{5}, []int64{5}},
		{"in order", []int64{1, 2, 3}, []int64{1, 2, 3}},
		{"in the other order", []int64{3, 2, 1}, []int64{1, 2, 3}},
		{"all equal", []int64{4, 4, 4, 4}, []int64{4}},
		{"equal ones side by side", []int64{1, 1, 2, 2, 3}, []int64{1, 2, 3}},
		{"equal ones apart", []int64{2, 1, 2, 1, 3, 2}, []int64{1, 2, 3}},
		{"0 and the greatest", []int64{api.MaxHour, 0, api.MaxHour, 0}, []int64{0, api.MaxHour}},
		{"hours that none may be", []int64{greatest, -1, least, api.MaxHour + 1, 0, -1}, []int64{least, -1, 0, api.MaxHour + 1, greatest}},
		{"one that text would put elsewhere", []int64{10, 9, 100, 11}, []int64{9, 10, 11, 100}},
	} {
		l, unchanged := roomy(t, withHours(c.hours...))
		tells(t, c.what, Hours(l), c.want)
		unchanged(c.what)
	}
}

func TestHoursOfManyFacts(t *testing.T) {
	for _, n := range []int{2, 11, 12, 13, 50, 51, 1000, 20000} {
		throw := stir(uint64(n))
		has := map[int64]bool{}
		var hours, want []int64
		for range n {
			h := int64(throw(n)) - 5
			hours = append(hours, h)
			has[h] = true
		}
		for h := int64(-5); h < int64(n); h++ {
			if has[h] {
				want = append(want, h)
			}
		}
		l, unchanged := roomy(t, withHours(hours...))
		tells(t, "Hours of "+strconv.Itoa(n), Hours(l), want)
		unchanged("Hours of " + strconv.Itoa(n))
	}
}

func TestHoursOfOneHourInManyKeys(t *testing.T) {
	l := []api.Fact{factOf(7, 1, "a"), factOf(7, 2, "b"), factOf(7, 1, "a"), factOf(6, 1, "a")}
	tells(t, "Hours", Hours(l), []int64{6, 7})
}

// --- P901 Sort

// inOrder: whether a may stand ahead of b.
func inOrder(a, b api.Fact) bool {
	c := keySign(a.Key, b.Key)
	return c < 0 || c == 0 && a.Value <= b.Value
}

// putInOrder: the facts, each put at its place, one by one.
func putInOrder(l []api.Fact) []api.Fact {
	var sorted []api.Fact
	for _, f := range l {
		at := 0
		for at < len(sorted) && inOrder(sorted[at], f) {
			at++
		}
		sorted = slices.Insert(sorted, at, f)
	}
	return sorted
}

// sorts: what Sort answers, and that it is another list.
func sorts(t *testing.T, what string, l, want []api.Fact) {
	t.Helper()
	l, unchanged := roomy(t, l)
	got := Sort(l)
	tells(t, what, got, want)
	unchanged(what)
	for i := range got {
		got[i] = factOf(-77, -77, "other")
	}
	_ = append(got, factOf(-77, -77, "other"))
	unchanged(what + ", and its answer changed")
}

func TestSort(t *testing.T) {
	a, b, c := factOf(1, 5, "x"), factOf(2, 4, "w"), factOf(3, 3, "v")
	sorts(t, "none", nil, nil)
	sorts(t, "one", []api.Fact{a}, []api.Fact{a})
	sorts(t, "in order", []api.Fact{a, b, c}, []api.Fact{a, b, c})
	sorts(t, "in the other order", []api.Fact{c, b, a}, []api.Fact{a, b, c})
	sorts(t, "all alike", times(5, a), times(5, a))
	low, high := factOf(1, -9, "x"), factOf(1, 9, "x")
	sorts(t, "equal keys", []api.Fact{high, a, low, a}, []api.Fact{low, a, a, high})
	sorts(t, "the key ahead of the value", []api.Fact{factOf(1, 1, "b"), factOf(1, 2, "a")}, []api.Fact{factOf(1, 2, "a"), factOf(1, 1, "b")})
	sorts(t, "the ends of values", withValues(greatest, 0, least, -1, 1), withValues(least, -1, 0, 1, greatest))
	sorts(t, "the ends of hours", []api.Fact{factOf(greatest, 0), factOf(least, 1)}, []api.Fact{factOf(least, 1), factOf(greatest, 0)})
	for i := range api.Dims {
		l := []api.Fact{withText(i, "\xff"), withText(i, "b"), withText(i, ""), withText(i, "ab"), withText(i, "a")}
		sorts(t, "dimension "+strconv.Itoa(i), l, []api.Fact{l[2], l[4], l[3], l[1], l[0]})
	}
}

func TestSortOfAllOrders(t *testing.T) {
	want := []api.Fact{factOf(1, 1, "a"), factOf(1, 2, "a"), factOf(1, 2, "a"), factOf(1, 1, "a", "b"), factOf(1, 0, "b"), factOf(2, -5, "")}
	for _, l := range orders(want) {
		sorts(t, "an order of six", l, want)
	}
}

func TestSortOfManyFacts(t *testing.T) {
	for _, n := range []int{2, 11, 12, 13, 50, 51, 200, 2000} {
		l := some(n, 3, uint64(n))
		want := putInOrder(l)
		sorts(t, "Sort of "+strconv.Itoa(n), l, want)
		sorts(t, "Sort of what is in order", want, want)
		slices.Reverse(l)
		sorts(t, "Sort the other way round", l, want)
	}
}
