package dict

import (
	"cmp"
	"math"
	"slices"
	"strings"
	"testing"
)

// same fails the test where got is not what the chapter says.
func same[T comparable](t *testing.T, what string, got, want T) {
	t.Helper()
	if got != want {
		t.Errorf("%s: %v, not %v", what, got, want)
	}
}

// tells ends the test where a list is not what the chapter says: the lists behind a wrong one are most often wrong, too.
func tells[T comparable](t *testing.T, what string, got []T, want ...T) {
	t.Helper()
	if !slices.Equal(got, want) {
		t.Fatalf("%s: %v, not %v", what, got, want)
	}
}

// one: what Code and At answer, to be compared at once.
type one[T comparable] struct {
	x  T
	is bool
}

func codeOf[T cmp.Ordered](d *Dict[T], x T) one[int] {
	code, is := d.Code(x)
	return one[int]{code, is}
}

func at[T cmp.Ordered](d *Dict[T], code int) one[T] {
	x, is := d.At(code)
	return one[T]{x, is}
}

// codesAre: Codes of l are those.
func codesAre[T cmp.Ordered](t *testing.T, d *Dict[T], l []T, want []int) {
	t.Helper()
	got, is := d.Codes(l)
	same(t, "whether Codes are", is, true)
	tells(t, "Codes", got, want...)
}

// thingsAre: Things of codes are those.
func thingsAre[T cmp.Ordered](t *testing.T, d *Dict[T], codes []int, want []T) {
	t.Helper()
	got, is := d.Things(codes)
	same(t, "whether Things are", is, true)
	tells(t, "Things", got, want...)
}

func noCodes[T cmp.Ordered](t *testing.T, d *Dict[T], l ...T) {
	t.Helper()
	got, is := d.Codes(l)
	same(t, "whether Codes are", is, false)
	tells(t, "Codes", got)
}

func noThings[T cmp.Ordered](t *testing.T, d *Dict[T], codes ...int) {
	t.Helper()
	got, is := d.Things(codes)
	same(t, "whether Things are", is, false)
	tells(t, "Things", got)
}

// once: the things of l in order, each once, reckoned by putting each ahead of the first one that is above it.
func once[T cmp.Ordered](l []T) []T {
	out := []T{}
	for _, x := range l {
		place := 0
		for place < len(out) && out[place] < x {
			place++
		}
		if place == len(out) || out[place] != x {
			out = slices.Insert(out, place, x)
		}
	}
	return out
}

// count: the numbers from 0 on, below n.
func count(n int) []int {
	l := make([]int, n)
	for i := range l {
		l[i] = i
	}
	return l
}

// has: the dictionary has these things, which rise, and no others (some of which are told), in each way that it can be asked.
func has[T cmp.Ordered](t *testing.T, d *Dict[T], things, others []T) {
	t.Helper()
	if d == nil {
		t.Fatal("no dictionary")
	}
	n := len(things)
	same(t, "Len", d.Len(), n)
	for code, x := range things {
		same(t, "Code", codeOf(d, x), one[int]{code, true})
		same(t, "At", at(d, code), one[T]{x, true})
	}
	for _, x := range others {
		same(t, "Code of another thing", codeOf(d, x), one[int]{})
		noCodes(t, d, x)
	}
	for _, code := range []int{math.MinInt, math.MinInt + 1, -n - 1, -n - 2, -2, -1, n, n + 1, 2*n + 1, math.MaxInt - 1, math.MaxInt} {
		same(t, "At of no thing's number", at(d, code), one[T]{})
		noThings(t, d, code)
	}
	codesAre(t, d, things, count(n))
	thingsAre(t, d, count(n), things)
}

// wild: n numbers from 0 to below, without a pattern, the same ones in each run.
func wild(n, below int) []int {
	l := make([]int, n)
	x := uint64(n)
	for i := range l {
		x = x*6364136223846793005 + 1442695040888963407
		l[i] = int(x>>33) % below
	}
	return l
}

// orders: all orders of things.
func orders[T any](things []T) [][]T {
	if len(things) == 0 {
		return [][]T{nil}
	}
	var l [][]T
	for i, x := range things {
		for _, rest := range orders(slices.Delete(slices.Clone(things), i, i+1)) {
			l = append(l, append([]T{x}, rest...))
		}
	}
	return l
}

// lists: all lists of at most most things out of these.
func lists[T any](things []T, most int) [][]T {
	all := [][]T{{}}
	last := all
	for range most {
		var next [][]T
		for _, l := range last {
			for _, x := range things {
				next = append(next, append(slices.Clone(l), x))
			}
		}
		all, last = append(all, next...), next
	}
	return all
}

// parts: all choices of things, those of each choice as they stand.
func parts[T any](things []T) [][]T {
	all := [][]T{{}}
	for _, x := range things {
		for _, l := range all {
			all = append(all, append(slices.Clone(l), x))
		}
	}
	return all
}

// without: what is in all and not in some.
func without[T comparable](all, some []T) []T {
	return slices.DeleteFunc(slices.Clone(all), func(x T) bool { return slices.Contains(some, x) })
}

// risingTexts: in order: the empty one, ones that others begin with, and ones with bytes above 127.
func risingTexts() []string {
	return []string{"", "\x00", "\x00\x00", " ", "0", "10", "9", "A", "a", "a\x00", "aa", "ab", "abc", "abd", "b", "ba", "\x7f", "\x80", "\x80\x80", "\xc3", "é", "日", "\xff", "\xff\x00", "\xff\xff"}
}

// risingNumbers: in order, with both ends.
func risingNumbers() []int64 {
	return []int64{math.MinInt64, math.MinInt64 + 1, math.MinInt32, -256, -10, -9, -1, 0, 1, 9, 10, 255, 256, math.MaxInt32, math.MaxInt64 - 1, math.MaxInt64}
}

// --- P1001

func TestExample(t *testing.T) {
	d := Of([]string{"b", "a", "b"})
	same(t, "Len", d.Len(), 2)
	same(t, "Code of a", codeOf(d, "a"), one[int]{0, true})
	same(t, "Code of b", codeOf(d, "b"), one[int]{1, true})
	same(t, "Code of c", codeOf(d, "c"), one[int]{})
	same(t, "At of 0", at(d, 0), one[string]{"a", true})
	same(t, "At of 1", at(d, 1), one[string]{"b", true})
	same(t, "At of 2", at(d, 2), one[string]{})
}

func TestOfNoThing(t *testing.T) {
	for _, d := range []*Dict[string]{Of[string](nil), Of([]string{}), {}} {
		has(t, d, nil, risingTexts())
	}
	for _, d := range []*Dict[int64]{Of[int64](nil), Of([]int64{}), {}} {
		has(t, d, nil, risingNumbers())
	}
}

func TestOfOneThing(t *testing.T) {
	for _, x := range risingTexts() {
		for times := 1; times < 4; times++ {
			has(t, Of(slices.Repeat([]string{x}, times)), []string{x}, without(risingTexts(), []string{x}))
		}
	}
	for _, x := range risingNumbers() {
		for times := 1; times < 4; times++ {
			has(t, Of(slices.Repeat([]int64{x}, times)), []int64{x}, without(risingNumbers(), []int64{x}))
		}
	}
}

// inSeveralOrders: things, which rise, come as they are, the other way round, and each more than once; and so do every second one of them.
func inSeveralOrders[T cmp.Ordered](t *testing.T, things []T) {
	t.Helper()
	var half []T
	for i := 1; i < len(things); i += 2 {
		half = append(half, things[i])
	}
	for _, rising := range [][]T{things, half} {
		falling := slices.Clone(rising)
		slices.Reverse(falling)
		var pairs []T
		for _, x := range falling {
			pairs = append(pairs, x, x)
		}
		for _, l := range [][]T{rising, falling, pairs, slices.Concat(rising, rising), slices.Concat(falling, rising), slices.Concat(rising, falling, rising[:1])} {
			has(t, Of(l), rising, without(things, rising))
		}
	}
}

func TestOfTexts(t *testing.T) {
	inSeveralOrders(t, risingTexts())
}

func TestOfNumbers(t *testing.T) {
	inSeveralOrders(t, risingNumbers())
}

func TestOfOtherTypes(t *testing.T) {
	inSeveralOrders(t, []int{math.MinInt, -7, -1, 0, 1, 7, math.MaxInt})
	inSeveralOrders(t, []uint64{0, 1, 2, math.MaxInt64, 1 << 63, math.MaxUint64 - 1, math.MaxUint64})
	inSeveralOrders(t, []int8{-128, -127, -1, 0, 1, 126, 127})
	inSeveralOrders(t, []uint8{0, 1, 127, 128, 129, 254, 255})
	inSeveralOrders(t, []float64{math.Inf(-1), -math.MaxFloat64, -1.5, 0, math.SmallestNonzeroFloat64, 1.5, math.Inf(1)})
	type name string
	inSeveralOrders(t, []name{"", "A", "Z", "a", "aa", "é", "日"})
	type grade uint8
	inSeveralOrders(t, []grade{0, 1, 9, 200})
}

func TestOfEachOrder(t *testing.T) {
	texts, numbers := []string{"", "a", "ab", "b", "\x80", "\xff"}, []int64{math.MinInt64, -1, 0, 1, 2, math.MaxInt64}
	for _, l := range orders(texts) {
		has(t, Of(l), texts, []string{"\x00", "aa", "abc", "\xff\xff"})
	}
	for _, l := range orders(numbers) {
		has(t, Of(l), numbers, []int64{math.MinInt64 + 1, -2, 3, math.MaxInt64 - 1})
	}
}

func TestOfEachShortList(t *testing.T) {
	things := []string{"", "a", "ab", "b"}
	for _, l := range lists(things, 6) {
		want := once(l)
		has(t, Of(l), want, without(things, want))
	}
}

func TestOfManyThings(t *testing.T) {
	const many = 100000
	rising := count(many)
	falling := slices.Clone(rising)
	slices.Reverse(falling)
	for _, l := range [][]int{rising, falling, slices.Concat(wild(many, many), rising), slices.Concat(falling, rising)} {
		d := Of(l)
		same(t, "Len", d.Len(), many)
		codesAre(t, d, rising, rising)
		thingsAre(t, d, falling, falling)
	}
	l := wild(1000, 500)
	want := once(l)
	same(t, "some of the wild ones come twice", len(want) < 500, true)
	has(t, Of(l), want, without(count(500), want))
}

func TestTheListStaysAsItIs(t *testing.T) {
	room := []string{"d", "b", "a", "b", "", "z", "y"}
	was := slices.Clone(room)
	d := Of(room[:5])
	tells(t, "the list, and its spare room", room, was...)
	has(t, d, []string{"", "a", "b", "d"}, []string{"y", "z"})
	for i := range room {
		room[i] = "z"
	}
	has(t, d, []string{"", "a", "b", "d"}, []string{"y", "z"})
	ints := []int{3, 1, 2}
	e := Of(ints)
	ints[0], ints[1], ints[2] = 0, 4, 5
	has(t, e, []int{1, 2, 3}, []int{0, 4, 5})
	in := []int{1, 2, 3} // nothing of it has to be moved
	f := Of(in)
	in[0], in[2] = 7, 8
	has(t, f, []int{1, 2, 3}, []int{0, 7, 8})
}

func TestCodeOfOtherThings(t *testing.T) {
	d := Of([]int64{20, 10, 30})
	for _, x := range []int64{math.MinInt64, -10, -1, 0, 1, 2, 3, 9, 11, 15, 19, 21, 29, 31, 100, math.MaxInt64} {
		same(t, "Code", codeOf(d, x), one[int]{})
	}
	e := Of([]string{"ab", "ad", "b"})
	for _, x := range []string{"", "a", "aa", "ab\x00", "aba", "ac", "ad ", "ae", "b\x00", "ba", "c", "AB", "B", "\xff"} {
		same(t, "Code", codeOf(e, x), one[int]{})
	}
}

func TestAskingChangesNothing(t *testing.T) {
	d := Of([]string{"b", "d"})
	for range 3 {
		for _, x := range []string{"a", "b", "c", "d", "e"} {
			d.Code(x)
			d.Codes([]string{"b", x, x})
		}
		for code := -1; code < 4; code++ {
			d.At(code)
			d.Things([]int{0, code, code})
		}
		Join(d, Of([]string{"a", "c", "e"}))
		has(t, d, []string{"b", "d"}, []string{"a", "c", "e"})
	}
}

func TestDictionariesShareNothing(t *testing.T) {
	a, b := Of([]int{1, 2}), Of([]int{2, 3})
	has(t, a, []int{1, 2}, []int{0, 3})
	has(t, b, []int{2, 3}, []int{0, 1})
	same(t, "Of of one list is another dictionary", Of([]int{1}) != Of([]int{1}), true)
}

func TestNumbersThatAreNone(t *testing.T) { // nothing is promised of them, but that all ends
	nan := math.NaN()
	d := Of([]float64{1, nan, -1, nan, math.Inf(-1)})
	d.Code(nan)
	d.Codes([]float64{nan, 1})
	for code := range d.Len() + 1 {
		d.At(code)
		d.Things([]int{code})
	}
	Join(d, d)
}

func TestZeroWithASign(t *testing.T) { // it is equal to the other one
	zero, below := 0.0, math.Copysign(0, -1)
	for _, l := range [][]float64{{zero}, {below}, {zero, below}, {below, zero}} {
		has(t, Of(l), []float64{0}, []float64{-1, 1})
		same(t, "Code", codeOf(Of(l), below), one[int]{0, true})
	}
}

// --- P1002

func TestCodes(t *testing.T) {
	d := Of([]string{"b", "a", "d", ""})
	for _, c := range []struct {
		l    []string
		want []int
	}{
		{nil, nil}, {[]string{}, nil},
		{[]string{""}, []int{0}}, {[]string{"d"}, []int{3}},
		{[]string{"", "a", "b", "d"}, []int{0, 1, 2, 3}}, {[]string{"d", "b", "a", ""}, []int{3, 2, 1, 0}}, {[]string{"b", "d"}, []int{2, 3}},
		{[]string{"a", "a"}, []int{1, 1}}, {[]string{"b", "", "b", "b", "d", ""}, []int{2, 0, 2, 2, 3, 0}},
	} {
		codesAre(t, d, c.l, c.want)
	}
	for _, l := range [][]string{
		{"c"}, {"c", "c"}, {"c", "e", "f"},
		{"c", "a", "b"}, {"a", "c", "b"}, {"a", "b", "c"},
		{"e", "a"}, {"a", "e"}, {"a", "e", "a", "e"},
	} {
		noCodes(t, d, l...)
	}
}

func TestThings(t *testing.T) {
	d := Of([]string{"b", "a", "d", ""})
	for _, c := range []struct {
		codes []int
		want  []string
	}{
		{nil, nil}, {[]int{}, nil},
		{[]int{0}, []string{""}}, {[]int{3}, []string{"d"}},
		{[]int{0, 1, 2, 3}, []string{"", "a", "b", "d"}}, {[]int{3, 2, 1, 0}, []string{"d", "b", "a", ""}}, {[]int{2, 3}, []string{"b", "d"}},
		{[]int{1, 1}, []string{"a", "a"}}, {[]int{2, 0, 2, 2, 3, 0}, []string{"b", "", "b", "b", "d", ""}},
	} {
		thingsAre(t, d, c.codes, c.want)
	}
	for _, codes := range [][]int{
		{4}, {4, 4}, {-1}, {-1, 4, 5},
		{4, 1, 2}, {1, 4, 2}, {1, 2, 4},
		{-1, 1, 2}, {1, -1, 2}, {1, 2, -1},
		{math.MaxInt, 0}, {0, math.MinInt}, {1, -1, 1, -1},
	} {
		noThings(t, d, codes...)
	}
}

func TestEachPlaceOfAThingThatHasNone(t *testing.T) {
	d := Of(count(40))
	for n := 1; n <= 40; n++ {
		codesAre(t, d, count(n), count(n))
		thingsAre(t, d, count(n), count(n))
		for i := range n {
			for _, wrong := range []int{-1, 40, 41, math.MinInt, math.MaxInt} {
				l := count(n)
				l[i] = wrong
				noCodes(t, d, l...)
				noThings(t, d, l...)
			}
		}
	}
}

func TestCodesAndThingsOfEachShortList(t *testing.T) {
	d := Of([]int{2, 0, 2})
	for _, l := range lists([]int{-1, 0, 1, 2, 3}, 5) {
		var codes, things []int
		for _, x := range l {
			switch x {
			case 0:
				codes, things = append(codes, 0), append(things, 0)
			case 1:
				things = append(things, 2)
			case 2:
				codes = append(codes, 1)
			}
		}
		if len(codes) == len(l) {
			codesAre(t, d, l, codes)
		} else {
			noCodes(t, d, l...)
		}
		if len(things) == len(l) {
			thingsAre(t, d, l, things)
		} else {
			noThings(t, d, l...)
		}
	}
}

func TestWhatIsHandedInStaysAndWhatIsHandedOutIsNew(t *testing.T) {
	d := Of([]int{0, 1, 2})
	room := []int{2, 1, 0, 1, 9, 9}
	was := slices.Clone(room)
	codes, _ := d.Codes(room[:4])
	things, _ := d.Things(room[:4])
	d.Codes(room[:5])
	d.Things(room[:5])
	tells(t, "the list, and its spare room", room, was...)
	again, _ := d.Codes(room[:4])
	room[0], again[1] = 7, 8
	tells(t, "Codes, when the list and other Codes are changed", codes, 2, 1, 0, 1)
	tells(t, "Things, when the list is changed", things, 2, 1, 0, 1)
	things, _ = d.Things([]int{0, 1, 2})
	for i := range things {
		things[i] = 9
	}
	has(t, d, []int{0, 1, 2}, []int{9})
}

// joins: Join of a and b, either way round, is the dictionary of these things; both stay as they are.
func joins[T cmp.Ordered](t *testing.T, a, b, all []T) {
	t.Helper()
	d, e := Of(a), Of(b)
	want := once(slices.Concat(a, b))
	for _, j := range []*Dict[T]{Join(d, e), Join(e, d)} {
		has(t, j, want, without(all, want))
		same(t, "Join is another dictionary", j != d && j != e, true)
	}
	has(t, d, once(a), without(all, a))
	has(t, e, once(b), without(all, b))
}

func TestJoin(t *testing.T) {
	for _, c := range [][2][]string{
		{{"a", "b"}, {"a", "b"}}, {{"b", "a"}, {"b", "b", "a"}}, // the same
		{{"a", "b"}, {"c", "d"}}, {{"a", "c"}, {"b", "d"}}, {{"a", "d"}, {"b", "c"}}, {{""}, {"\xff"}}, // none together
		{{"a", "b"}, {"b", "c"}}, {{"a", "b", "c"}, {"b"}}, {{"", "\x80"}, {"\x80", "\xff"}}, {{"a", "ab"}, {"a", "abc"}}, // some together
		{{}, {"a", "b"}}, {{}, {""}}, {{}, {}}, // without things
	} {
		joins(t, c[0], c[1], risingTexts())
	}
	joins(t, []int64{0, math.MinInt64}, []int64{math.MaxInt64, 0, 1}, risingNumbers())
	joins(t, risingNumbers(), risingNumbers(), risingNumbers())
	joins(t, []string{"b", "a", "b"}, []string{"0"}, risingTexts())
}

func TestJoinOfEachTwoChoices(t *testing.T) {
	things := []string{"", "a", "ab", "b", "\xff"}
	for _, a := range parts(things) {
		for _, b := range parts(things) {
			joins(t, a, b, things)
		}
	}
}

func TestJoinWithNil(t *testing.T) {
	for _, l := range parts([]int{math.MinInt, -1, 0, 7, math.MaxInt}) {
		d := Of(l)
		others := without([]int{math.MinInt, -1, 0, 1, 7, math.MaxInt}, l)
		for _, j := range []*Dict[int]{Join(d, nil), Join(nil, d)} {
			has(t, j, l, others)
			same(t, "Join with nil is another dictionary", j != d, true)
		}
		has(t, d, l, others)
	}
	has(t, Join[int](nil, nil), nil, []int{-1, 0, 1})
	has(t, Join[string](nil, nil), nil, risingTexts())
}

func TestJoinWithTheZeroValue(t *testing.T) {
	d := Of([]string{"b", "a"})
	for _, j := range []*Dict[string]{Join(d, &Dict[string]{}), Join(&Dict[string]{}, d)} {
		has(t, j, []string{"a", "b"}, []string{"", "c"})
	}
}

func TestJoinWithItself(t *testing.T) {
	d := Of(risingTexts())
	j := Join(d, d)
	same(t, "Join is another dictionary", j != d, true)
	has(t, j, risingTexts(), []string{"c", "\x01"})
	has(t, d, risingTexts(), []string{"c", "\x01"})
}

func TestJoinOfJoins(t *testing.T) {
	a, b, c := Of([]int{1, 4}), Of([]int{3, 2}), Of([]int{0, 4, 9})
	for _, j := range []*Dict[int]{Join(a, Join(b, c)), Join(Join(a, b), c), Join(Join(c, a), Join(nil, b))} {
		has(t, j, []int{0, 1, 2, 3, 4, 9}, []int{-1, 5, 8, 10})
	}
}

// --- nil

func TestNil(t *testing.T) {
	var d *Dict[string]
	same(t, "Len", d.Len(), 0)
	for _, x := range risingTexts() {
		same(t, "Code", codeOf(d, x), one[int]{})
		noCodes(t, d, x)
	}
	for _, code := range []int{math.MinInt, -1, 0, 1, math.MaxInt} {
		same(t, "At", at(d, code), one[string]{})
		noThings(t, d, code)
	}
	for _, n := range []int{0, 1, 3} {
		noCodes(t, d, make([]string, n)...)
		noThings(t, d, make([]int, n)...)
	}
	noCodes(t, d)
	noThings(t, d)
	var numbers *Dict[int64]
	same(t, "Len", numbers.Len(), 0)
	same(t, "Code", codeOf(numbers, 0), one[int]{})
	same(t, "At", at(numbers, 0), one[int64]{})
	noCodes(t, numbers)
	noThings(t, numbers)
}

// --- P1003

// obeysTheLaws: numbers are in the order of their things, and there and back all is as it was.
func obeysTheLaws[T cmp.Ordered](t *testing.T, l []T) {
	t.Helper()
	d := Of(l)
	for _, a := range l {
		for _, b := range l {
			same(t, "Codes in the order of their things", cmp.Compare(codeOf(d, a).x, codeOf(d, b).x), cmp.Compare(a, b))
		}
		same(t, "At of a Code", at(d, codeOf(d, a).x), one[T]{a, true})
	}
	for a := range d.Len() {
		for b := range d.Len() {
			same(t, "things in the order of their numbers", cmp.Compare(at(d, a).x, at(d, b).x), cmp.Compare(a, b))
		}
		same(t, "Code of an At", codeOf(d, at(d, a).x), one[int]{a, true})
	}
	codes, is := d.Codes(l)
	same(t, "whether Codes are", is, true)
	thingsAre(t, d, codes, l)
	all := count(d.Len())
	slices.Reverse(all)
	all = append(all, count(d.Len())...)
	things, is := d.Things(all)
	same(t, "whether Things are", is, true)
	codesAre(t, d, things, all)
	has(t, Of(things), once(l), nil)
}

func TestLaws(t *testing.T) {
	obeysTheLaws(t, risingTexts())
	obeysTheLaws(t, risingNumbers())
	obeysTheLaws(t, slices.Concat(risingTexts(), []string{"b", "", "\xff"}, risingTexts()))
	obeysTheLaws(t, wild(200, 150))
	obeysTheLaws(t, []string{})
	obeysTheLaws(t, []float64{math.Inf(1), -1, 0, 1, math.Inf(-1)})
	for _, l := range lists([]string{"", "a", "ab", "b"}, 5) {
		obeysTheLaws(t, l)
	}
}

func TestLawsOfLongTexts(t *testing.T) {
	var l []string
	for n := range 40 {
		l = append(l, strings.Repeat("x", n), strings.Repeat("x", n)+"\xff", strings.Repeat("\x80", n))
	}
	obeysTheLaws(t, l)
}

func TestLawsOfJoins(t *testing.T) {
	a, b := wild(100, 300), wild(101, 300)
	j := Join(Of(a), Of(b))
	for _, x := range slices.Concat(a, b) {
		same(t, "At of a Code", at(j, codeOf(j, x).x), one[int]{x, true})
	}
	has(t, j, once(slices.Concat(a, b)), []int{-1, 300})
}
