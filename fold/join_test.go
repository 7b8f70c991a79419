package fold

import (
	"math"
	"slices"
	"strconv"
	"testing"

	"ossuary/api"
)

// --- P1402: Join

// joins: Join of these lists is what their rows come to, put one by one, or Overflow; it is what it is, whatever is done behind it with what was handed in, or with what it answered ahead of that.
func joins(t *testing.T, l ...[]api.Row) {
	t.Helper()
	rooms := make([][]api.Row, len(l), len(l)+1)
	var stays []func(what string)
	for i, rows := range l {
		if rows == nil {
			continue
		}
		room, stayed := roomy(t, rows, groupOf(one(9), "spare"))
		rooms[i], stays = room, append(stays, stayed)
	}
	stayed := func(what string) {
		t.Helper()
		for _, stayed := range stays {
			stayed(what)
		}
		for i, rows := range l {
			tells(t, what+": a list", rooms[i], rows...)
		}
		same(t, what+": whether the spare room of the lists is empty", rooms[:cap(rooms)][len(rooms)] == nil, true)
	}
	got, fault := Join(rooms...)
	answers(t, "Join", got, fault, slices.Concat(l...))
	stayed("Join")
	again, fault := Join(rooms...)
	spoil(got, spoilt())
	stayed("Join, changed behind it")
	for _, rows := range rooms {
		spoil(rows, spoilt())
	}
	answers(t, "Join, again", again, fault, slices.Concat(l...))
}

// joinsTo: likewise, and it is just that.
func joinsTo(t *testing.T, want []api.Row, l ...[]api.Row) {
	t.Helper()
	joins(t, l...)
	got, fault := Join(l...)
	same(t, "Join: the fault", fault, api.OK)
	tells(t, "Join", got, want...)
}

func joinOverflows(t *testing.T, l ...[]api.Row) {
	t.Helper()
	joins(t, l...)
	got, fault := Join(l...)
	same(t, "Join: the fault", fault, api.Overflow)
	tells(t, "Join beside Overflow", got)
}

// rising: groups in order, unlike in each dimension alone, and in several; no two of them with one cell.
func rising() []api.Row {
	l := []api.Row{
		groupOf(one(0)), groupOf(one(1), "", "", "", "\x00"), groupOf(one(2), "", "", "", "a"), groupOf(one(3), "", "", "a"), groupOf(one(4), "", "", "a", "a"),
		groupOf(one(5), "", "a"), groupOf(one(6), "", "a", "", "a"), groupOf(one(7), "A"), groupOf(one(8), "a"), groupOf(one(9), "a", "", "", "a"),
		groupOf(one(10), "a", "a"), groupOf(one(11), "a", "b"), groupOf(one(12), "aa"), groupOf(one(13), "b"), groupOf(one(14), "\x80"), groupOf(one(15), "\xff", "\xff", "\xff", "\xff"),
	}
	for i := range l {
		n := int64(i)
		l[i].Cell = api.Cell{Count: n + 2, Sum: 100 - 7*n, Min: -n, Max: 3 * n}
	}
	return l
}

// chosen: those rows whose bit is 1.
func chosen(rows []api.Row, bits int) []api.Row {
	l := []api.Row{}
	for i, r := range rows {
		if bits>>i&1 == 1 {
			l = append(l, r)
		}
	}
	return l
}

func TestJoinOfNoRow(t *testing.T) {
	joinsTo(t, nil)
	for n := range 6 {
		joinsTo(t, nil, make([][]api.Row, n)...)
		joinsTo(t, nil, slices.Repeat([][]api.Row{{}}, n)...)
	}
	joinsTo(t, nil, nil, []api.Row{}, nil)
}

func TestJoinOfOneList(t *testing.T) {
	l := rising()
	for n := range len(l) + 1 {
		joinsTo(t, l[:n], l[:n])
		joinsTo(t, l[n:], l[n:])
		joinsTo(t, l[:n], nil, l[:n])
		joinsTo(t, l[:n], l[:n], nil)
		joinsTo(t, l[:n], nil, []api.Row{}, l[:n], []api.Row{}, nil)
	}
}

func TestJoinByWords(t *testing.T) {
	a := []api.Row{groupOf(one(2), "a"), groupOf(api.Cell{Count: 2, Sum: 2, Min: -1, Max: 3}, "b")}
	b := []api.Row{groupOf(one(9), "", "z"), groupOf(one(1), "a")}
	want := []api.Row{groupOf(one(9), "", "z"), groupOf(api.Cell{Count: 2, Sum: 3, Min: 1, Max: 2}, "a"), groupOf(api.Cell{Count: 2, Sum: 2, Min: -1, Max: 3}, "b")}
	joinsTo(t, want, a, b)
	joinsTo(t, want, b, a)
	joinsTo(t, want, a, nil, b)
	joinsTo(t, want, a, b, []api.Row{})
}

func TestJoinOfNoGroup(t *testing.T) { // lists of queries without a group
	joinsTo(t, []api.Row{groupOf(api.Cell{Count: 4, Sum: 7, Min: -3, Max: 5})}, []api.Row{groupOf(one(5))}, nil, []api.Row{groupOf(one(-3))}, []api.Row{groupOf(api.Cell{Count: 2, Sum: 5, Min: 1, Max: 4})})
}

func TestJoinOfTheSameKeys(t *testing.T) {
	l := rising()
	other, want := slices.Clone(l), slices.Clone(l)
	for i := range other {
		n := int64(i)
		other[i].Cell = one(n*n - 50)
		want[i].Cell = api.Cell{Count: n + 3, Sum: 50 - 7*n + n*n, Min: min(-n, n*n-50), Max: max(3*n, n*n-50)}
	}
	joinsTo(t, want, l, other)
	joinsTo(t, want, other, l)
}

func TestJoinOfNoKeyTogether(t *testing.T) {
	l := rising()
	for n := range len(l) + 1 {
		joinsTo(t, l, l[:n], l[n:])
		joinsTo(t, l, l[n:], l[:n])
	}
	odd, even := chosen(l, 0x5555), chosen(l, 0xaaaa)
	joinsTo(t, l, odd, even)
	joinsTo(t, l, even, odd)
}

func TestJoinOfEachTwoChoices(t *testing.T) {
	l := rising()[3:8]
	for a := range 1 << len(l) {
		for b := range 1 << len(l) {
			joins(t, chosen(l, a), chosen(l, b))
		}
	}
}

func TestJoinOfEachThreeChoices(t *testing.T) {
	l := rising()[7:11]
	for a := range 1 << len(l) {
		for b := range 1 << len(l) {
			for c := range 1 << len(l) {
				joins(t, chosen(l, a), chosen(l, b), chosen(l, c))
			}
		}
	}
}

func TestJoinOfListsInEachOrder(t *testing.T) {
	l := rising()
	parts := [][]api.Row{l[:4], l[2:9], l[8:], nil, chosen(l, 0x1111)}
	want, _ := putAll(slices.Concat(parts...))
	for _, parts := range orders(parts) {
		joinsTo(t, want, parts...)
	}
}

func TestJoinOfManyLists(t *testing.T) {
	throw := stir(6)
	l := rising()
	parts := make([][]api.Row, 300)
	for i := range parts {
		parts[i] = chosen(l, throw(1<<len(l)))
	}
	joins(t, parts...)
	singles := make([][]api.Row, 1000)
	for i := range singles {
		singles[i] = []api.Row{groupOf(one(int64(i)), strconv.Itoa(i*7919%100))}
	}
	joins(t, singles...)
}

func TestJoinWithItself(t *testing.T) {
	l := rising()
	want := slices.Clone(l)
	for i := range want {
		want[i].Cell.Count *= 2
		want[i].Cell.Sum *= 2
	}
	got, fault := Join(l, l)
	same(t, "Join: the fault", fault, api.OK)
	tells(t, "Join of one list twice", got, want...)
	tells(t, "the list", l, rising()...)
}

// oneEach: a list of one row for each cell, all of one group, and two other groups in each.
func oneEach(cells []api.Cell, group string) [][]api.Row {
	var l [][]api.Row
	for _, c := range cells {
		rows, _ := putAll([]api.Row{groupOf(one(1), "d"), groupOf(c, group), groupOf(one(-1), "p")})
		l = append(l, rows)
	}
	return l
}

func TestJoinOverflows(t *testing.T) { // in the order of the lists; of the first group, of one between, of the last one
	for _, c := range cellLists() {
		for _, group := range []string{"", "a", "g", "z"} {
			l := oneEach(c.cells, group)
			joins(t, l...)
			got, fault := Join(l...)
			same(t, "Join: whether it fits", fault == api.OK, c.fits)
			same(t, "Join: whether there are groups", len(got) > 0, c.fits)
			joins(t, slices.Insert(l, len(l)/2, nil, []api.Row{groupOf(one(4), "between")})...)
		}
	}
}

func TestJoinOverflowsInTheOrderOfTheLists(t *testing.T) {
	a, b, c := []api.Row{groupOf(heavy(greatest), "k")}, []api.Row{groupOf(heavy(1), "k")}, []api.Row{groupOf(heavy(-5), "k")}
	want := []api.Row{groupOf(api.Cell{Count: 6, Sum: greatest - 4, Min: -1, Max: 1}, "k")}
	joinOverflows(t, a, b, c)
	joinOverflows(t, b, a, c)
	joinsTo(t, want, a, c, b)
	joinsTo(t, want, c, a, b)
	joinsTo(t, want, b, c, a)
	joinsTo(t, want, c, b, a)
	joinOverflows(t, a, nil, b, c)
}

func TestJoinOverflowsInOneGroupAlone(t *testing.T) {
	a := []api.Row{groupOf(heavy(greatest), "a"), groupOf(heavy(least), "c")}
	b := []api.Row{groupOf(heavy(greatest), "b"), groupOf(heavy(least), "d")}
	joinsTo(t, []api.Row{a[0], b[0], a[1], b[1]}, a, b)
	joinsTo(t, []api.Row{a[0], b[0], a[1], b[1]}, b, a)
	joinOverflows(t, a, b, a)
	joinOverflows(t, a, b, a[:1])
	joinOverflows(t, a, b, b[1:])
	joinOverflows(t, a, b, []api.Row{groupOf(one(1), "b")})
	joinOverflows(t, a, b, []api.Row{groupOf(one(-1), "c")})
}

func TestJoinHangsOnNoOrderOfAMap(t *testing.T) {
	l := rising()
	for range 200 {
		joinsTo(t, l, l[8:], l[:8])
	}
}

func TestJoinOfListsThatAreNoGroups(t *testing.T) { // each key once, whatever there is
	joinsTo(t, []api.Row{groupOf(one(2), "a"), groupOf(api.Cell{Count: 2, Sum: 4, Min: 1, Max: 3}, "b"), rowOf(4, one(8), "a"), rowOf(5, one(9), "a")},
		[]api.Row{rowOf(5, one(9), "a"), groupOf(one(1), "b"), groupOf(one(2), "a"), groupOf(one(3), "b")}, []api.Row{rowOf(4, one(8), "a")})
}

// --- P1403: Top

// topAs: the first ones, one after the other: of those that are left the first one whose Sum none is above.
func topAs(l []api.Row, most int) []api.Row {
	left := slices.Clone(l)
	top := []api.Row{}
	for len(left) > 0 && (most < 0 || len(top) < most) {
		place := 0
		for i, r := range left {
			if r.Cell.Sum > left[place].Cell.Sum {
				place = i
			}
		}
		top = append(top, left[place])
		left = slices.Delete(left, place, place+1)
	}
	return top
}

// mosts: how many may be asked for, of n rows.
func mosts(n int) []int {
	l := []int{math.MinInt, math.MinInt + 1, -n - 1, -n, -2, -1, n + 1, n + 2, 2*n + 1, 1 << 32, math.MaxInt - 1, math.MaxInt}
	for i := range n + 1 {
		l = append(l, i)
	}
	return l
}

// tops: Top of l is what topAs tells, for each most; likewise whatever is done behind it.
func tops(t *testing.T, l []api.Row) {
	t.Helper()
	for _, most := range mosts(len(l)) {
		what := "Top " + strconv.Itoa(most)
		want := topAs(l, most)
		room, stayed := roomy(t, l, groupOf(heavy(greatest), "spare"))
		got := Top(room, most)
		tells(t, what, got, want...)
		stayed(what)
		again := Top(room, most)
		spoil(got, spoilt())
		stayed(what + ", changed behind it")
		spoil(room, spoilt())
		tells(t, what+", again", again, want...)
	}
}

// summed: a row of each Sum, each with its place as its hour, and with a Count, a Min and a Max that fall where Sums rise.
func summed(sums ...int64) []api.Row {
	l := make([]api.Row, len(sums))
	for i, v := range sums {
		l[i] = rowOf(int64(i), api.Cell{Count: int64(len(sums) - i + 1), Sum: v, Min: -v >> 1, Max: ^v}, strconv.Itoa(i*7%5))
	}
	return l
}

func TestTopOfNoRow(t *testing.T) {
	tops(t, nil)
	tops(t, []api.Row{})
	for _, most := range mosts(3) {
		tells(t, "Top of nil", Top(nil, most))
	}
}

func TestTopByWords(t *testing.T) {
	l := summed(5, 9, -3, 9, 0, 5)
	want := []api.Row{l[1], l[3], l[0], l[5], l[4], l[2]}
	for most := range len(l) + 1 {
		tells(t, "Top "+strconv.Itoa(most), Top(l, most), want[:most]...)
	}
	for _, most := range []int{-1, -2, -6, -7, math.MinInt, 6, 7, 100, math.MaxInt} {
		tells(t, "Top "+strconv.Itoa(most), Top(l, most), want...)
	}
}

func TestTopOfOneRow(t *testing.T) {
	for _, v := range []int64{least, -1, 0, 1, greatest} {
		l := summed(v)
		tops(t, l)
		tells(t, "Top 0", Top(l, 0))
		tells(t, "Top 1", Top(l, 1), l...)
		tells(t, "Top -1", Top(l, -1), l...)
	}
}

func TestTopOfEqualSums(t *testing.T) { // they stay as they stand
	for _, v := range []int64{least, -7, 0, 7, greatest} {
		for n := range 40 {
			l := summed(slices.Repeat([]int64{v}, n)...)
			tells(t, "Top of equal ones", Top(l, -1), l...)
			tells(t, "Top of equal ones", Top(l, n/2), l[:n/2]...)
		}
	}
}

func TestTopOfEachList(t *testing.T) { // of Sums below 0, at the least and the greatest, equal or not
	for _, sums := range lists([]int64{least, -1, 0, greatest}, 5) {
		tops(t, summed(sums...))
	}
}

func TestTopOfSumsAtTheEnds(t *testing.T) { // which no difference tells apart
	l := summed(least, greatest, 0, least+1, greatest-1, -1, 1, least, greatest)
	tops(t, l)
	tells(t, "Top", Top(l, -1), l[1], l[8], l[4], l[6], l[2], l[5], l[3], l[0], l[7])
	for _, l := range orders(summed(least, greatest, -1, 1, 0, -2)) {
		tells(t, "Top", Top(l, -1), topAs(l, -1)...)
		tells(t, "Top 2", Top(l, 2), topAs(l, 2)...)
	}
}

func TestTopGoesBySumsAlone(t *testing.T) {
	l := []api.Row{
		rowOf(9, api.Cell{Count: 9, Sum: 1, Min: 9, Max: 9}, "z", "z", "z", "z"), rowOf(0, api.Cell{Count: 1, Sum: 2, Min: -9, Max: -9}),
		rowOf(5, api.Cell{Sum: 1, Max: 90}, "a"), rowOf(-5, api.Cell{Count: -4, Sum: 2, Min: 3, Max: 2}, "y"), rowOf(9, api.Cell{Count: 9, Sum: 1, Min: 9, Max: 9}, "z", "z", "z", "z"),
	}
	tops(t, l)
	tells(t, "Top", Top(l, -1), l[1], l[3], l[0], l[2], l[4])
}

func TestTopOfMany(t *testing.T) {
	throw := stir(9)
	for _, n := range []int{2, 3, 7, 8, 15, 16, 17, 31, 32, 33, 64, 100} {
		for _, kinds := range []int{1, 2, 5, 1000000} {
			sums := make([]int64, n)
			for i := range sums {
				sums[i] = int64(throw(kinds) - kinds/2)
			}
			tops(t, summed(sums...))
			slices.Sort(sums)
			tops(t, summed(sums...))
			slices.Reverse(sums)
			tops(t, summed(sums...))
		}
	}
}

func TestTopOfVeryMany(t *testing.T) {
	throw := stir(10)
	sums := make([]int64, 100000)
	for i := range sums {
		sums[i] = int64(throw(5000) - 2500)
	}
	l := summed(sums...)
	want := slices.Clone(l)
	slices.SortStableFunc(want, func(a, b api.Row) int {
		switch {
		case a.Cell.Sum > b.Cell.Sum:
			return -1
		case a.Cell.Sum < b.Cell.Sum:
			return 1
		}
		return 0
	})
	tells(t, "Top of all", Top(l, -1), want...)
	tells(t, "Top 1000", Top(l, 1000), want[:1000]...)
}

func TestTopOfWhatIsFolded(t *testing.T) {
	groups, _ := Facts(query(0, all, "G"), []api.Fact{factOf(1, 3, "a"), factOf(2, 9, "b"), factOf(3, 6, "a"), factOf(4, 10, "c"), factOf(5, -1, "d")})
	tells(t, "Top 3", Top(groups, 3), groupOf(one(10), "c"), groupOf(api.Cell{Count: 2, Sum: 9, Min: 3, Max: 6}, "a"), groupOf(one(9), "b"))
}
