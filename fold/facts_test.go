package fold

import (
	"slices"
	"strconv"
	"strings"
	"testing"

	"ossuary/api"
	"ossuary/seg"
)

// --- P1401: Facts

func TestExample(t *testing.T) {
	l := []api.Fact{factOf(5, 3, "a"), factOf(5, 4, "b")}
	want := groupOf(api.Cell{Count: 2, Sum: 7, Min: 3, Max: 4})
	factsTo(t, query(0, all, ""), l, want)
	factsTo(t, query(5, 6, ""), []api.Fact{l[1], l[0]}, want)
	factsTo(t, query(0, all, "G"), l, groupOf(one(3), "a"), groupOf(one(4), "b"))
}

func TestFactsByWords(t *testing.T) {
	for _, c := range tellings() {
		t.Run(c.what, func(t *testing.T) {
			factsTo(t, c.q, visited(), c.want...)
			backwards := visited()
			slices.Reverse(backwards)
			factsTo(t, c.q, backwards, c.want...)
		})
	}
}

func TestFactsOfNoFact(t *testing.T) {
	for _, q := range append(groupings(0, all), groupings(4, 4)...) {
		for _, q := range []api.Query{q, with(q, 0, ""), with(with(q, 2, "a"), 3, "")} {
			factsTo(t, q, nil)
			factsTo(t, q, []api.Fact{})
		}
	}
}

func TestFactsOfOneFact(t *testing.T) {
	for _, v := range []int64{0, 1, -1, api.MaxValue, -api.MaxValue, greatest, least} {
		l := []api.Fact{factOf(7, v, "a", "", "c", "d")}
		for _, q := range groupings(7, 8) {
			want := groupOf(one(v))
			for i, is := range q.Group {
				if is {
					want.Key.Dims[i] = l[0].Key.Dims[i]
				}
			}
			factsTo(t, q, l, want)
			for i, text := range l[0].Key.Dims {
				factsTo(t, with(q, i, text), l, want)
				factsTo(t, with(q, i, text+"\x00"), l)
				factsTo(t, with(q, i, "b"), l)
			}
			for _, hours := range [][2]int64{{0, 8}, {7, all}, {0, all}} {
				q.From, q.To = hours[0], hours[1]
				factsTo(t, q, l, want)
			}
			for _, hours := range [][2]int64{{0, 7}, {8, all}, {7, 7}, {8, 8}, {0, 0}, {all, all}} {
				q.From, q.To = hours[0], hours[1]
				factsTo(t, q, l)
			}
		}
	}
}

func TestFactsOfHoursAtTheEnds(t *testing.T) {
	l := []api.Fact{factOf(api.MaxHour, 8), factOf(0, 1), factOf(api.MaxHour-1, 4), factOf(1, 2)}
	hours := []int64{0, 1, 2, 5, api.MaxHour - 1, api.MaxHour, all}
	for _, from := range hours {
		for _, to := range hours {
			if from <= to {
				foldsFacts(t, query(from, to, ""), l)
			}
		}
	}
	factsTo(t, query(0, all, ""), l, groupOf(api.Cell{Count: 4, Sum: 15, Min: 1, Max: 8}))
	factsTo(t, query(api.MaxHour, all, ""), l, groupOf(one(8)))
	factsTo(t, query(0, api.MaxHour, ""), l, groupOf(api.Cell{Count: 3, Sum: 7, Min: 1, Max: 4}))
	factsTo(t, query(0, 1, ""), l, groupOf(one(1)))
}

func TestFactsThatAreNotRight(t *testing.T) { // nothing of Facts asks that they are
	long := strings.Repeat("x", 1000)
	l := []api.Fact{factOf(-1, 1, "a"), factOf(least, 2, "a"), factOf(all, 4, "a"), factOf(greatest, 8, "a"), factOf(3, 16, long), factOf(3, 32, long+"y"), factOf(3, least, "z")}
	factsTo(t, query(0, all, "G"), l, groupOf(one(16), long), groupOf(one(32), long+"y"), groupOf(one(least), "z"))
	factsTo(t, with(query(0, all, "G"), 0, "a"), l)
}

func TestFactsOfEachOrder(t *testing.T) {
	l := []api.Fact{factOf(2, 1, "b"), factOf(1, 2, "b"), factOf(3, 4, "a"), factOf(1, 8, "a"), factOf(1, 16, "a"), factOf(1, 32, "", "a")}
	for _, l := range orders(l) {
		factsTo(t, query(0, all, "G"), l,
			groupOf(one(32)), groupOf(api.Cell{Count: 3, Sum: 28, Min: 4, Max: 16}, "a"), groupOf(api.Cell{Count: 2, Sum: 3, Min: 1, Max: 2}, "b"))
	}
}

func TestFactsOfEqualKeys(t *testing.T) {
	for _, values := range lists([]int64{-3, 0, 0, 5}, 5) {
		var l []api.Fact
		for _, v := range values {
			l = append(l, factOf(4, v, "a", "b"))
		}
		foldsFacts(t, query(0, all, ""), l)
		foldsFacts(t, query(0, all, "GGGG"), l)
		foldsFacts(t, query(5, all, "GGGG"), l)
	}
	factsTo(t, query(0, all, ".G"), []api.Fact{factOf(4, 3, "a", "b"), factOf(4, 3, "a", "b"), factOf(4, -1, "a", "b")}, groupOf(api.Cell{Count: 3, Sum: 5, Min: -1, Max: 3}, "", "b"))
}

func TestFactsOfEachList(t *testing.T) { // each list of up to five facts, that are of one group or not, and match or don't
	things := []api.Fact{factOf(1, 1, "a", "p"), factOf(2, 2, "a", "q"), factOf(1, 4, "b", "p"), factOf(9, 8, "a", "p")}
	for _, l := range lists(things, 5) {
		for _, q := range []api.Query{query(0, 9, ""), query(0, 9, "G"), with(query(0, all, "G"), 1, "p")} {
			got, fault := Facts(q, l)
			answers(t, "Facts", got, fault, matching(q, rowsOf(l)))
		}
	}
}

func TestFactsWithoutAPattern(t *testing.T) {
	for n := range 60 {
		l := some(n*3, uint64(n))
		for _, q := range someQueries(20, uint64(n)) {
			foldsFacts(t, q, l)
		}
	}
}

func TestFactsOfMany(t *testing.T) {
	l := make([]api.Fact, 30000)
	for i := range l {
		l[i] = factOf(int64(i*7919%1000), int64(i), strconv.Itoa(i%3), strconv.Itoa(i%10))
	}
	for _, q := range []api.Query{query(0, all, ""), query(500, all, "G"), query(0, 999, ".G"), query(1, 1000, "GG"), with(query(0, all, "G"), 1, "3")} {
		got, fault := Facts(q, l)
		answers(t, "Facts", got, fault, matching(q, rowsOf(l)))
	}
}

func TestFactsHangOnNoOrderOfAMap(t *testing.T) {
	l := some(300, 5)
	for _, q := range groupings(0, all) {
		first, _ := Facts(q, l)
		for range 20 {
			got, fault := Facts(q, l)
			same(t, "Facts: the fault", fault, api.OK)
			tells(t, "Facts again", got, first...)
		}
	}
}

// falling: a fact of each value, each an hour ahead of the one before, and beside it one of each of two other groups.
func falling(values []int64, group string) []api.Fact {
	var l []api.Fact
	for i, v := range values {
		hour := int64(len(values) - i)
		l = append(l, factOf(hour, 1, "d", "other"), factOf(hour, v, group, "it"), factOf(hour, -1, "p", "other"))
	}
	return l
}

func TestFactsOverflow(t *testing.T) { // in the order of the facts, which is that of no keys
	for _, c := range sums() {
		for _, group := range []string{"", "a", "g", "z"} {
			l := falling(c.values, group)
			for _, q := range []api.Query{query(0, all, "G"), query(1, int64(len(c.values)+1), "GGGG"), with(query(0, all, ""), 1, "it"), with(query(0, all, "..G"), 0, group)} {
				foldsFacts(t, q, l)
				got, fault := Facts(q, l)
				same(t, "Facts: whether it fits", fault == api.OK, c.fits)
				same(t, "Facts: whether there are groups", len(got) > 0, c.fits)
			}
		}
	}
}

func TestFactsOverflowInTheirOrder(t *testing.T) {
	a, b, c := factOf(3, greatest, "a"), factOf(2, 1, "a"), factOf(1, -5, "a")
	want := groupOf(api.Cell{Count: 3, Sum: greatest - 4, Min: -5, Max: greatest})
	factsOverflow(t, query(0, all, ""), []api.Fact{a, b, c})
	factsOverflow(t, query(0, all, ""), []api.Fact{b, a, c})
	factsTo(t, query(0, all, ""), []api.Fact{a, c, b}, want)
	factsTo(t, query(0, all, ""), []api.Fact{c, a, b}, want)
	factsTo(t, query(0, all, ""), []api.Fact{b, c, a}, want)
	factsTo(t, query(0, all, ""), []api.Fact{c, b, a}, want)
}

func TestFactsOverflowInOneGroupAlone(t *testing.T) {
	l := []api.Fact{factOf(1, greatest, "a", "x"), factOf(1, greatest, "b", "x"), factOf(2, least, "c", "x"), factOf(3, least, "d", "y")}
	factsTo(t, query(0, all, "G"), l, groupOf(one(greatest), "a"), groupOf(one(greatest), "b"), groupOf(one(least), "c"), groupOf(one(least), "d"))
	factsOverflow(t, query(0, all, ""), l)
	factsOverflow(t, query(0, all, ".G"), l)
	factsTo(t, query(2, 4, ".G"), l, groupOf(one(least), "", "x"), groupOf(one(least), "", "y"))
}

func TestFactsDoNotOverflowByThoseThatDoNotMatch(t *testing.T) {
	l := []api.Fact{
		factOf(3, greatest, "a", "x"), factOf(3, -1, "a", "y"), factOf(1, greatest, "a", "x"), factOf(1, 1, "a", "y"), factOf(2, greatest, "a", "x"), factOf(2, 2, "a", "y"),
	}
	factsOverflow(t, query(0, all, ""), l)
	factsOverflow(t, with(query(0, all, ""), 1, "x"), l)
	factsTo(t, with(query(0, all, ""), 1, "y"), l, groupOf(api.Cell{Count: 3, Sum: 2, Min: -1, Max: 2}))
	factsTo(t, with(query(0, all, ""), 0, "b"), l)
	factsTo(t, query(3, all, ""), l, groupOf(api.Cell{Count: 2, Sum: greatest - 1, Min: -1, Max: greatest}))
	factsOverflow(t, query(1, 2, ""), l)
	factsTo(t, query(0, 1, ""), l)
	factsTo(t, query(2, 2, ""), l)
}

func TestFactsOfSixteenOfTheGreatestRightValue(t *testing.T) {
	l := slices.Repeat([]api.Fact{factOf(1, api.MaxValue, "a")}, 16)
	factsTo(t, query(0, all, ""), l[:7], groupOf(api.Cell{Count: 7, Sum: 7 * api.MaxValue, Min: api.MaxValue, Max: api.MaxValue}))
	factsOverflow(t, query(0, all, ""), l[:8])
	factsOverflow(t, query(0, all, ""), l)
	for i := range l {
		l[i].Value = -api.MaxValue
	}
	factsTo(t, query(0, all, ""), l[:8], groupOf(api.Cell{Count: 8, Sum: least, Min: -api.MaxValue, Max: -api.MaxValue}))
	factsOverflow(t, query(0, all, ""), l[:9])
}

// --- P1404: facts in parts, joined, are facts at once

// isWhole: these parts' groups, joined in that order, are the groups of all facts.
func isWhole(t *testing.T, q api.Query, l []api.Fact, parts ...[]api.Fact) {
	t.Helper()
	want, fault := Facts(q, l)
	same(t, "Facts: the fault", fault, api.OK)
	var groups [][]api.Row
	for _, part := range parts {
		rows, fault := Facts(q, part)
		same(t, "Facts of a part: the fault", fault, api.OK)
		groups = append(groups, rows)
	}
	got, fault := Join(groups...)
	same(t, "Join: the fault", fault, api.OK)
	tells(t, "parts, joined", got, want...)
}

func TestLawOfTwoParts(t *testing.T) { // cut at each place, joined in either order
	for seed := range uint64(12) {
		l := some(int(seed)*4, seed)
		for _, q := range append(someQueries(12, seed), groupings(0, all)...) {
			for i := range len(l) + 1 {
				isWhole(t, q, l, l[:i], l[i:])
				isWhole(t, q, l, l[i:], l[:i])
			}
		}
	}
}

func TestLawOfManyParts(t *testing.T) {
	l := some(24, 3)
	for _, q := range append(someQueries(12, 3), groupings(0, all)...) {
		for size := 1; size <= len(l); size++ {
			parts := slices.Collect(slices.Chunk(l, size))
			isWhole(t, q, l, parts...)
			slices.Reverse(parts)
			isWhole(t, q, l, parts...)
		}
	}
	for _, parts := range orders([][]api.Fact{l[:3], l[3:4], l[4:13], l[13:13], l[13:]}) {
		isWhole(t, query(0, all, "GG"), l, parts...)
	}
}

func TestLawOfPartsWithinParts(t *testing.T) { // what is joined may be joined again
	l := some(30, 8)
	q := query(0, all, "G.G")
	want, _ := Facts(q, l)
	for i := range len(l) + 1 {
		for j := i; j <= len(l); j++ {
			a, _ := Facts(q, l[:i])
			b, _ := Facts(q, l[i:j])
			c, _ := Facts(q, l[j:])
			ab, _ := Join(a, b)
			bc, _ := Join(b, c)
			left, _ := Join(ab, c)
			right, _ := Join(a, bc)
			tells(t, "two joined, and the third one", left, want...)
			tells(t, "the first one, and two joined", right, want...)
		}
	}
}

func TestLawOfSegments(t *testing.T) { // a segment has the groups of its facts, and so have segments of parts, joined
	for seed := range uint64(12) {
		l := some(int(seed)*5, seed)
		whole, _ := seg.Of(l)
		for _, q := range append(someQueries(12, seed), groupings(0, all)...) {
			want, _ := Facts(q, l)
			got, fault := Seg(q, whole)
			same(t, "Seg: the fault", fault, api.OK)
			tells(t, "Seg of facts", got, want...)
			for i := range len(l) + 1 {
				s, _ := seg.Of(l[:i])
				a, _ := Seg(q, s)
				b, _ := Facts(q, l[i:])
				one, _ := Join(a, b)
				other, _ := Join(b, a)
				tells(t, "a segment of some, and the other facts", one, want...)
				tells(t, "the other facts, and a segment of some", other, want...)
			}
		}
	}
}

func TestLawOfHours(t *testing.T) { // so that each hour may come from another place
	l := some(60, 4)
	s, _ := seg.Of(l)
	for _, cut := range []int64{0, 1, 2, 3, 127, 128, 129, api.MaxHour, all} {
		for _, q := range groupings(0, all) {
			want, _ := Seg(q, s)
			below, above := q, q
			below.To, above.From = cut, cut
			a, _ := Seg(below, s)
			b, _ := Facts(above, l)
			got, fault := Join(a, b)
			same(t, "Join: the fault", fault, api.OK)
			tells(t, "hours in two parts, joined", got, want...)
		}
	}
}
