package fold

import (
	"math"
	"math/big"
	"slices"
	"strconv"
	"strings"
	"testing"

	"ossuary/api"
	"ossuary/seg"
)

const (
	least    = math.MinInt64
	greatest = math.MaxInt64
	all      = api.MaxHour + 1 // the To of a query of all hours
)

// same fails the test where got is not what the chapter says.
func same[T comparable](t *testing.T, what string, got, want T) {
	t.Helper()
	if got != want {
		t.Errorf("%s: %v, not %v", what, got, want)
	}
}

// tells ends the test where a list is not what the chapter says: what follows would most often be wrong, too.
func tells[T comparable](t *testing.T, what string, got []T, want ...T) {
	t.Helper()
	if !slices.Equal(got, want) {
		t.Fatalf("%s: %v, not %v", what, got, want)
	}
}

func keyOf(hour int64, texts ...string) api.Key {
	k := api.Key{Hour: hour}
	copy(k.Dims[:], texts)
	return k
}

func factOf(hour, value int64, texts ...string) api.Fact {
	return api.Fact{Key: keyOf(hour, texts...), Value: value}
}

func one(value int64) api.Cell {
	return api.Cell{Count: 1, Sum: value, Min: value, Max: value}
}

func rowOf(hour int64, c api.Cell, texts ...string) api.Row {
	return api.Row{Key: keyOf(hour, texts...), Cell: c}
}

// groupOf: a group's row.
func groupOf(c api.Cell, texts ...string) api.Row {
	return rowOf(0, c, texts...)
}

// query: of some hours, grouped by the dimensions whose letter is G: "G..G" groups by the first and the last one.
func query(from, to int64, groups string) api.Query {
	q := api.Query{From: from, To: to}
	for i, c := range groups {
		q.Group[i] = c == 'G'
	}
	return q
}

// with: the query that asks for a text in that dimension, too.
func with(q api.Query, dim int, text string) api.Query {
	q.Has[dim], q.Filter[dim] = true, text
	return q
}

// groupings: the queries of some hours by each choice of dimensions.
func groupings(from, to int64) []api.Query {
	var l []api.Query
	for bits := range 1 << api.Dims {
		q := api.Query{From: from, To: to}
		for i := range q.Group {
			q.Group[i] = bits>>i&1 == 1
		}
		l = append(l, q)
	}
	return l
}

// --- What the chapter asks for, reckoned another way.

// ahead: whether a comes before b, by the words of the facts' chapter.
func ahead(a, b api.Key) bool {
	if a.Hour != b.Hour {
		return a.Hour < b.Hour
	}
	for i := range a.Dims {
		if a.Dims[i] != b.Dims[i] {
			return a.Dims[i] < b.Dims[i]
		}
	}
	return false
}

// sum: two numbers as one, reckoned without a bound; false: no int64 holds it.
func sum(a, b int64) (int64, bool) {
	whole := new(big.Int).Add(big.NewInt(a), big.NewInt(b))
	if !whole.IsInt64() {
		return 0, false
	}
	return whole.Int64(), true
}

// merged: what two cells of a Count above 0 come to, by the words of the cells' chapter.
func merged(a, b api.Cell) (api.Cell, bool) {
	count, counted := sum(a.Count, b.Count)
	whole, summed := sum(a.Sum, b.Sum)
	if !counted || !summed {
		return api.Cell{}, false
	}
	c := api.Cell{Count: count, Sum: whole, Min: a.Min, Max: a.Max}
	if b.Min < c.Min {
		c.Min = b.Min
	}
	if b.Max > c.Max {
		c.Max = b.Max
	}
	return c, true
}

// put: rows that rise, and a further one: put at its place, or merged into the one that is there. False: it can't be.
func put(rows []api.Row, r api.Row) ([]api.Row, bool) {
	place := 0
	for place < len(rows) && ahead(rows[place].Key, r.Key) {
		place++
	}
	if place == len(rows) || rows[place].Key != r.Key {
		return slices.Insert(rows, place, r), true
	}
	c, ok := merged(rows[place].Cell, r.Cell)
	rows[place].Cell = c
	return rows, ok
}

// putAll: rows of any keys in any order, put one by one.
func putAll(l []api.Row) ([]api.Row, bool) {
	rows := []api.Row{}
	for _, r := range l {
		var ok bool
		if rows, ok = put(rows, r); !ok {
			return nil, false
		}
	}
	return rows, true
}

// matching: those of rows that match, with their groups' keys, by the words of the queries' chapter.
func matching(q api.Query, l []api.Row) []api.Row {
	var rows []api.Row
rows:
	for _, r := range l {
		if r.Key.Hour < q.From || r.Key.Hour >= q.To {
			continue
		}
		k := api.Key{}
		for i, text := range r.Key.Dims {
			if q.Has[i] && text != q.Filter[i] {
				continue rows
			}
			if q.Group[i] {
				k.Dims[i] = text
			}
		}
		rows = append(rows, api.Row{Key: k, Cell: r.Cell})
	}
	return rows
}

// rowsOf: a row of each fact.
func rowsOf(l []api.Fact) []api.Row {
	rows := make([]api.Row, len(l))
	for i, f := range l {
		rows[i] = api.Row{Key: f.Key, Cell: one(f.Value)}
	}
	return rows
}

// --- What is called, and all that must hold whatever it is called with.

// roomy: a list with spare room behind it, and a check that neither changed.
func roomy[T comparable](t *testing.T, l []T, spare T) ([]T, func(what string)) {
	whole := append(slices.Clone(l), spare, spare, spare)
	kept := slices.Clone(whole)
	return whole[:len(l)], func(what string) {
		t.Helper()
		tells(t, what+": what was handed in", whole, kept...)
	}
}

// spoil changes all of a list, its spare room too.
func spoil[T any](l []T, with T) {
	l = l[:cap(l)]
	for i := range l {
		l[i] = with
	}
}

// spoilt: no row of a test.
func spoilt() api.Row {
	return api.Row{Key: keyOf(-77, "spoilt"), Cell: api.Cell{Count: -7, Sum: -7, Min: 7, Max: -7}}
}

// segment: that has just these rows.
func segment(t *testing.T, rows []api.Row) *seg.Seg {
	t.Helper()
	s, fault := seg.Rows(rows)
	if fault != api.OK {
		t.Fatalf("rows of a test: %v", fault)
	}
	return s
}

// answers: rows and a fault are what those rows come to, put one by one, or Overflow.
func answers(t *testing.T, what string, got []api.Row, fault api.Fault, l []api.Row) {
	t.Helper()
	want, ok := putAll(l)
	if !ok {
		same(t, what+": the fault", fault, api.Overflow)
		tells(t, what+" beside Overflow", got)
		return
	}
	same(t, what+": the fault", fault, api.OK)
	tells(t, what, got, want...)
}

// foldsSeg: Seg of a segment of these rows is what the rows that match come to. It is what it is, whatever is done behind it with the segment, or with what it answered ahead of that.
func foldsSeg(t *testing.T, q api.Query, rows []api.Row) {
	t.Helper()
	s := segment(t, rows)
	got, fault := Seg(q, s)
	answers(t, "Seg", got, fault, matching(q, rows))
	spoil(got, spoilt())
	same(t, "Seg: whether the segment stayed", s.Same(segment(t, rows)), true)
	again, fault := Seg(q, s)
	answers(t, "Seg, again", again, fault, matching(q, rows))
}

// foldsFacts: likewise, of facts.
func foldsFacts(t *testing.T, q api.Query, l []api.Fact) {
	t.Helper()
	room, stayed := roomy(t, l, factOf(1, 1, "a", "a", "a", "a"))
	got, fault := Facts(q, room)
	answers(t, "Facts", got, fault, matching(q, rowsOf(l)))
	stayed("Facts")
	again, fault := Facts(q, room)
	spoil(got, spoilt())
	stayed("Facts, changed behind it")
	spoil(room, api.Fact{Key: spoilt().Key, Value: -7})
	answers(t, "Facts, again", again, fault, matching(q, rowsOf(l)))
}

// segTo: Seg of these rows is just that.
func segTo(t *testing.T, q api.Query, rows []api.Row, want ...api.Row) {
	t.Helper()
	foldsSeg(t, q, rows)
	got, fault := Seg(q, segment(t, rows))
	same(t, "Seg: the fault", fault, api.OK)
	tells(t, "Seg", got, want...)
}

func segOverflows(t *testing.T, q api.Query, rows []api.Row) {
	t.Helper()
	foldsSeg(t, q, rows)
	got, fault := Seg(q, segment(t, rows))
	same(t, "Seg: the fault", fault, api.Overflow)
	tells(t, "Seg beside Overflow", got)
}

// factsTo: Facts of these is just that.
func factsTo(t *testing.T, q api.Query, l []api.Fact, want ...api.Row) {
	t.Helper()
	foldsFacts(t, q, l)
	got, fault := Facts(q, l)
	same(t, "Facts: the fault", fault, api.OK)
	tells(t, "Facts", got, want...)
}

func factsOverflow(t *testing.T, q api.Query, l []api.Fact) {
	t.Helper()
	foldsFacts(t, q, l)
	got, fault := Facts(q, l)
	same(t, "Facts: the fault", fault, api.Overflow)
	tells(t, "Facts beside Overflow", got)
}

// --- Things to call with.

// stir hands out numbers from 0 to below, without a pattern, the same ones in each run.
func stir(seed uint64) func(below int) int {
	return func(below int) int {
		seed = seed*6364136223846793005 + 1442695040888963407
		return int(seed>>33) % below
	}
}

// some: facts that are right, without a pattern, of few hours and texts, so that many are of one key.
func some(n int, seed uint64) []api.Fact {
	throw := stir(seed)
	hours := []int64{0, 1, 2, 127, 128, api.MaxHour - 1, api.MaxHour}
	texts := []string{"", "a", "b", "\xff"}
	l := make([]api.Fact, n)
	for i := range l {
		l[i] = factOf(hours[throw(len(hours))], int64(throw(2001)-1000))
		for d := range throw(api.Dims + 1) {
			l[i].Key.Dims[d] = texts[throw(len(texts))]
		}
	}
	return l
}

// someRows: rows of a segment without a pattern, no two of them with one cell.
func someRows(n int, seed uint64) []api.Row {
	rows, _ := putAll(rowsOf(some(n, seed)))
	for i := range rows {
		n := int64(i)
		rows[i].Cell = api.Cell{Count: n + 2, Sum: 1000 - n*n, Min: -n, Max: n * 3}
	}
	return rows
}

// someQueries: right ones, without a pattern; each has a Filter in few dimensions, so that most match something.
func someQueries(n int, seed uint64) []api.Query {
	throw := stir(seed)
	hours := []int64{0, 1, 2, 3, 127, 128, 129, api.MaxHour - 1, api.MaxHour, all}
	texts := []string{"", "a", "b", "\xff", "c"}
	l := make([]api.Query, n)
	for i := range l {
		from := throw(len(hours))
		l[i] = query(hours[from], hours[from+throw(len(hours)-from)], "")
		for d := range api.Dims {
			l[i].Group[d] = throw(2) == 0
			if throw(5) == 0 {
				l[i] = with(l[i], d, texts[throw(len(texts))])
			}
		}
	}
	return l
}

// lists: all lists of at most most things out of these.
func lists[T any](things []T, most int) [][]T {
	whole := [][]T{{}}
	last := whole
	for range most {
		var next [][]T
		for _, l := range last {
			for _, x := range things {
				next = append(next, append(slices.Clone(l), x))
			}
		}
		whole, last = append(whole, next...), next
	}
	return whole
}

// orders: all orders of things.
func orders[T any](things []T) [][]T {
	if len(things) == 0 {
		return [][]T{nil}
	}
	var l [][]T
	for i, x := range things {
		for _, rest := range orders(slices.Delete(slices.Clone(things), i, i+1)) {
			l = append(l, append([]T{x}, rest...))
		}
	}
	return l
}

// visits: rows of a segment of all four dimensions, of three hours.
func visits() []api.Row {
	return []api.Row{
		rowOf(1, api.Cell{Count: 2, Sum: 7, Min: 3, Max: 4}, "eu", "app", "x", "p"),
		rowOf(1, one(5), "eu", "web", "x", "q"),
		rowOf(1, one(-2), "us", "app", "y", "p"),
		rowOf(2, api.Cell{Count: 3, Sum: 0, Min: -9, Max: 9}, "eu", "app", "y", "q"),
		rowOf(2, one(10), "us", "web", "x", "p"),
		rowOf(5, one(20), "eu", "app", "x", "p"),
		rowOf(5, one(40), "us", "app", "x", "q"),
	}
}

// visited: facts that come to the same groups as visits.
func visited() []api.Fact {
	return []api.Fact{
		factOf(5, 40, "us", "app", "x", "q"),
		factOf(1, 3, "eu", "app", "x", "p"),
		factOf(2, 9, "eu", "app", "y", "q"),
		factOf(2, 10, "us", "web", "x", "p"),
		factOf(1, 4, "eu", "app", "x", "p"),
		factOf(2, 0, "eu", "app", "y", "q"),
		factOf(1, -2, "us", "app", "y", "p"),
		factOf(5, 20, "eu", "app", "x", "p"),
		factOf(2, -9, "eu", "app", "y", "q"),
		factOf(1, 5, "eu", "web", "x", "q"),
	}
}

// tellings: queries of visits, and what they come to, by hand.
func tellings() []struct {
	what string
	q    api.Query
	want []api.Row
} {
	return []struct {
		what string
		q    api.Query
		want []api.Row
	}{
		{"no group", query(0, all, ""), []api.Row{groupOf(api.Cell{Count: 10, Sum: 80, Min: -9, Max: 40})}},
		{"by the first dimension", query(0, all, "G"), []api.Row{
			groupOf(api.Cell{Count: 7, Sum: 32, Min: -9, Max: 20}, "eu"),
			groupOf(api.Cell{Count: 3, Sum: 48, Min: -2, Max: 40}, "us"),
		}},
		{"by the second one", query(0, all, ".G"), []api.Row{
			groupOf(api.Cell{Count: 8, Sum: 65, Min: -9, Max: 40}, "", "app"),
			groupOf(api.Cell{Count: 2, Sum: 15, Min: 5, Max: 10}, "", "web"),
		}},
		{"by the third one", query(0, all, "..G"), []api.Row{
			groupOf(api.Cell{Count: 6, Sum: 82, Min: 3, Max: 40}, "", "", "x"),
			groupOf(api.Cell{Count: 4, Sum: -2, Min: -9, Max: 9}, "", "", "y"),
		}},
		{"by the last one", query(0, all, "...G"), []api.Row{
			groupOf(api.Cell{Count: 5, Sum: 35, Min: -2, Max: 20}, "", "", "", "p"),
			groupOf(api.Cell{Count: 5, Sum: 45, Min: -9, Max: 40}, "", "", "", "q"),
		}},
		{"by the first and the last one", query(0, all, "G..G"), []api.Row{
			groupOf(api.Cell{Count: 3, Sum: 27, Min: 3, Max: 20}, "eu", "", "", "p"),
			groupOf(api.Cell{Count: 4, Sum: 5, Min: -9, Max: 9}, "eu", "", "", "q"),
			groupOf(api.Cell{Count: 2, Sum: 8, Min: -2, Max: 10}, "us", "", "", "p"),
			groupOf(one(40), "us", "", "", "q"),
		}},
		{"by all", query(0, all, "GGGG"), []api.Row{
			groupOf(api.Cell{Count: 3, Sum: 27, Min: 3, Max: 20}, "eu", "app", "x", "p"),
			groupOf(api.Cell{Count: 3, Sum: 0, Min: -9, Max: 9}, "eu", "app", "y", "q"),
			groupOf(one(5), "eu", "web", "x", "q"),
			groupOf(one(40), "us", "app", "x", "q"),
			groupOf(one(-2), "us", "app", "y", "p"),
			groupOf(one(10), "us", "web", "x", "p"),
		}},
		{"of a filter, no group", with(query(0, all, ""), 0, "eu"), []api.Row{groupOf(api.Cell{Count: 7, Sum: 32, Min: -9, Max: 20})}},
		{"of a filter, by its dimension", with(query(0, all, "G"), 0, "us"), []api.Row{groupOf(api.Cell{Count: 3, Sum: 48, Min: -2, Max: 40}, "us")}},
		{"of a filter, by another dimension", with(query(0, all, "G"), 3, "q"), []api.Row{
			groupOf(api.Cell{Count: 4, Sum: 5, Min: -9, Max: 9}, "eu"), groupOf(one(40), "us"),
		}},
		{"of two filters", with(with(query(0, all, "..G"), 0, "eu"), 1, "app"), []api.Row{
			groupOf(api.Cell{Count: 3, Sum: 27, Min: 3, Max: 20}, "", "", "x"), groupOf(api.Cell{Count: 3, Sum: 0, Min: -9, Max: 9}, "", "", "y"),
		}},
		{"of four filters", with(with(with(with(query(0, all, ""), 0, "eu"), 1, "app"), 2, "x"), 3, "p"), []api.Row{groupOf(api.Cell{Count: 3, Sum: 27, Min: 3, Max: 20})}},
		{"of a filter that none has", with(query(0, all, "G"), 1, "tv"), nil},
		{"of an empty filter", with(query(0, all, "G"), 1, ""), nil},
		{"of the first hour", query(1, 2, "G"), []api.Row{groupOf(api.Cell{Count: 3, Sum: 12, Min: 3, Max: 5}, "eu"), groupOf(one(-2), "us")}},
		{"from the second hour on", query(2, all, "G"), []api.Row{
			groupOf(api.Cell{Count: 4, Sum: 20, Min: -9, Max: 20}, "eu"), groupOf(api.Cell{Count: 2, Sum: 50, Min: 10, Max: 40}, "us"),
		}},
		{"below the last hour", query(0, 5, ".G"), []api.Row{
			groupOf(api.Cell{Count: 6, Sum: 5, Min: -9, Max: 9}, "", "app"), groupOf(api.Cell{Count: 2, Sum: 15, Min: 5, Max: 10}, "", "web"),
		}},
		{"of the last hour", query(5, 6, "G"), []api.Row{groupOf(one(20), "eu"), groupOf(one(40), "us")}},
		{"of hours between", query(3, 5, "G"), nil},
		{"of no hour", query(2, 2, "G"), nil},
		{"of hours ahead", query(0, 1, ""), nil},
		{"of hours behind", query(6, all, ""), nil},
		{"of hours and a filter", with(query(2, 6, ".G"), 3, "q"), []api.Row{groupOf(api.Cell{Count: 4, Sum: 40, Min: -9, Max: 40}, "", "app")}},
	}
}

// --- P1401: Seg

func TestSegByWords(t *testing.T) {
	for _, c := range tellings() {
		t.Run(c.what, func(t *testing.T) { segTo(t, c.q, visits(), c.want...) })
	}
}

func TestSegOfNoRow(t *testing.T) {
	empty, _ := seg.Of(nil)
	for _, s := range []*seg.Seg{nil, {}, empty, segment(t, nil), segment(t, visits()).Part(3, 5)} {
		for _, q := range append(groupings(0, all), append(groupings(3, 5), groupings(4, 4)...)...) {
			for _, q := range []api.Query{q, with(q, 0, ""), with(q, 1, "a"), with(with(q, 2, "a"), 3, "")} {
				got, fault := Seg(q, s)
				same(t, "Seg: the fault", fault, api.OK)
				tells(t, "Seg of no row", got)
			}
		}
	}
}

func TestSegOfOneRow(t *testing.T) {
	c := api.Cell{Count: 5, Sum: -3, Min: -20, Max: 17}
	rows := []api.Row{rowOf(7, c, "a", "b", "", "d")}
	for _, q := range groupings(7, 8) {
		want := groupOf(c)
		for i, is := range q.Group {
			if is {
				want.Key.Dims[i] = rows[0].Key.Dims[i]
			}
		}
		segTo(t, q, rows, want)
		for i, text := range rows[0].Key.Dims {
			segTo(t, with(q, i, text), rows, want)
			segTo(t, with(q, i, text+"\x00"), rows)
			segTo(t, with(q, i, "c"), rows)
		}
		for _, hours := range [][2]int64{{0, 8}, {7, all}, {0, all}, {6, 8}, {7, 9}} {
			q.From, q.To = hours[0], hours[1]
			segTo(t, q, rows, want)
		}
		for _, hours := range [][2]int64{{0, 7}, {8, all}, {7, 7}, {8, 8}, {0, 0}, {all, all}, {6, 7}, {8, 9}} {
			q.From, q.To = hours[0], hours[1]
			segTo(t, q, rows)
		}
	}
}

func TestSegOfHoursAtTheEnds(t *testing.T) {
	rows := []api.Row{rowOf(0, one(1)), rowOf(1, one(2)), rowOf(api.MaxHour-1, one(4)), rowOf(api.MaxHour, one(8))}
	hours := []int64{0, 1, 2, 5, api.MaxHour - 1, api.MaxHour, all}
	for _, from := range hours {
		for _, to := range hours {
			if from <= to {
				foldsSeg(t, query(from, to, ""), rows)
			}
		}
	}
	segTo(t, query(0, all, ""), rows, groupOf(api.Cell{Count: 4, Sum: 15, Min: 1, Max: 8}))
	segTo(t, query(0, api.MaxHour, ""), rows, groupOf(api.Cell{Count: 3, Sum: 7, Min: 1, Max: 4}))
	segTo(t, query(api.MaxHour, all, ""), rows, groupOf(one(8)))
	segTo(t, query(0, 1, ""), rows, groupOf(one(1)))
	segTo(t, query(1, all, ""), rows, groupOf(api.Cell{Count: 3, Sum: 14, Min: 2, Max: 8}))
	segTo(t, query(all, all, ""), rows)
}

func TestSegOfRowsThatNoRightHourHas(t *testing.T) { // a segment may have them, no right query asks for them
	rows := []api.Row{rowOf(least, one(1)), rowOf(-1, one(2)), rowOf(0, one(4)), rowOf(api.MaxHour, one(8)), rowOf(all, one(16)), rowOf(greatest, one(32))}
	segTo(t, query(0, all, ""), rows, groupOf(api.Cell{Count: 2, Sum: 12, Min: 4, Max: 8}))
}

func TestSegOfEachHour(t *testing.T) { // each pair of hours, of rows that begin and end in each
	var rows []api.Row
	for hour := range int64(6) {
		rows = append(rows, rowOf(hour, one(1<<hour), "a"), rowOf(hour, one(100<<hour), "b"))
	}
	for begin := 0; begin <= len(rows); begin += 2 {
		for end := begin; end <= len(rows); end += 2 {
			for from := range int64(8) {
				for to := from; to < 8; to++ {
					foldsSeg(t, query(from, to, "G"), rows[begin:end])
					foldsSeg(t, query(from, to, ""), rows[begin:end])
				}
			}
		}
	}
}

func TestSegOfRowsSideBySideAndFarApart(t *testing.T) {
	rows := []api.Row{
		rowOf(3, one(1), "a", "p"), rowOf(3, one(2), "a", "q"), // side by side
		rowOf(3, one(4), "b", "p"), rowOf(3, one(8), "c", "p"), rowOf(4, one(16), "b", "q"),
		rowOf(9, one(32), "a", "p"), // far apart
	}
	segTo(t, query(0, all, "G"), rows,
		groupOf(api.Cell{Count: 3, Sum: 35, Min: 1, Max: 32}, "a"), groupOf(api.Cell{Count: 2, Sum: 20, Min: 4, Max: 16}, "b"), groupOf(one(8), "c"))
	segTo(t, with(query(0, all, "G"), 1, "p"), rows, // those of q stand between
		groupOf(api.Cell{Count: 2, Sum: 33, Min: 1, Max: 32}, "a"), groupOf(one(4), "b"), groupOf(one(8), "c"))
	segTo(t, with(query(0, all, ".G"), 0, "a"), rows,
		groupOf(api.Cell{Count: 2, Sum: 33, Min: 1, Max: 32}, "", "p"), groupOf(one(2), "", "q"))
}

func TestSegOfGroupsInTheOtherOrder(t *testing.T) { // that of the rows is none of the groups'
	var rows, want []api.Row
	for hour := range int64(26) {
		letter := string(rune('z' - hour))
		rows = append(rows, rowOf(hour, one(hour), "s", letter))
		want = append([]api.Row{groupOf(one(hour), "", letter)}, want...)
	}
	segTo(t, query(0, all, ".G"), rows, want...)
}

func TestSegOfTextsThatAreBytes(t *testing.T) {
	texts := []string{"", "\x00", "\x00\x00", "A", "a", "aa", "ab", "b", "\x7f", "\x80", "\xc3\xa4", "\xff", "\xff\x00", strings.Repeat("\xff", 16)}
	var rows, want []api.Row
	for i, s := range texts {
		rows = append(rows, rowOf(1, one(int64(i)), "k", s))
		want = append(want, groupOf(one(int64(i)), "", s))
	}
	segTo(t, query(0, all, ".G"), rows, want...)
	for i, s := range texts {
		segTo(t, with(query(0, all, ".G"), 1, s), rows, want[i])
		segTo(t, with(query(0, all, ""), 1, s), rows, groupOf(one(int64(i))))
	}
}

func TestSegOfAllQueries(t *testing.T) { // each choice of groups and filters in all dimensions at once
	s := segment(t, someRows(150, 1))
	var rows []api.Row
	for i := range s.Len() {
		r, _ := s.At(i)
		rows = append(rows, r)
	}
	matched := 0
	for _, q := range groupings(1, api.MaxHour) {
		for _, filters := range lists([]string{"-", "", "a"}, api.Dims) {
			if len(filters) < api.Dims {
				continue
			}
			q := q
			for i, text := range filters {
				if text != "-" {
					q = with(q, i, text)
				}
			}
			got, fault := Seg(q, s)
			answers(t, "Seg", got, fault, matching(q, rows))
			matched += len(got)
		}
	}
	if matched < 1000 {
		t.Errorf("only %d groups", matched)
	}
}

func TestSegWithoutAPattern(t *testing.T) {
	for n := range 60 {
		rows := someRows(n*3, uint64(n))
		for _, q := range someQueries(20, uint64(n)) {
			foldsSeg(t, q, rows)
		}
	}
}

func TestSegOfManyRows(t *testing.T) {
	var rows []api.Row
	for hour := range int64(1000) {
		for i := range 30 {
			rows = append(rows, rowOf(hour, one(hour*int64(i)), strconv.Itoa(i/10), strconv.Itoa(i%10)))
		}
	}
	s := segment(t, rows)
	for _, q := range []api.Query{query(0, all, ""), query(500, all, "G"), query(0, 999, ".G"), query(1, 1000, "GG"), with(query(0, all, "G"), 1, "3")} {
		got, fault := Seg(q, s)
		answers(t, "Seg", got, fault, matching(q, rows))
	}
}

func TestSegHangsOnNoOrderOfAMap(t *testing.T) {
	s := segment(t, someRows(200, 5))
	for _, q := range groupings(0, all) {
		first, _ := Seg(q, s)
		for range 20 {
			got, fault := Seg(q, s)
			same(t, "Seg: the fault", fault, api.OK)
			tells(t, "Seg again", got, first...)
		}
	}
}

// --- Overflow, of Seg, Facts and Join alike.

// heavy: a cell of two values, of which only the Sum is great.
func heavy(sum int64) api.Cell {
	return api.Cell{Count: 2, Sum: sum, Min: -1, Max: 1}
}

// counted: a cell of which only the Count is great.
func counted(count int64) api.Cell {
	return api.Cell{Count: count, Sum: 3, Min: 1, Max: 2}
}

// sums: numbers, and whether they can be summed up in their order.
func sums() []struct {
	values []int64
	fits   bool
} {
	return []struct {
		values []int64
		fits   bool
	}{
		{[]int64{greatest}, true}, {[]int64{least}, true},
		{[]int64{greatest, 0}, true}, {[]int64{greatest, 1}, false}, {[]int64{1, greatest}, false}, {[]int64{greatest - 1, 1}, true}, {[]int64{greatest, greatest}, false},
		{[]int64{least, 0}, true}, {[]int64{least, -1}, false}, {[]int64{-1, least}, false}, {[]int64{least + 1, -1}, true}, {[]int64{least, least}, false},
		{[]int64{1 << 62, 1<<62 - 1}, true}, {[]int64{1 << 62, 1 << 62}, false}, {[]int64{-1 << 62, -1 << 62}, true}, {[]int64{-1 << 62, -1 << 62, -1}, false},
		{[]int64{greatest, least}, true}, {[]int64{least, greatest}, true}, {[]int64{greatest, -1, 1}, true},
		{[]int64{greatest, 1, -5}, false}, {[]int64{greatest, -5, 1}, true}, {[]int64{-5, 1, greatest}, true}, // it leaves its range, and comes back behind it
		{[]int64{least, -1, 5}, false}, {[]int64{least, 5, -1}, true}, {[]int64{5, -1, least}, true},
		{[]int64{1, greatest, least}, false}, {[]int64{greatest, least, 1}, true}, {[]int64{-1, least, greatest}, false}, {[]int64{least, greatest, 1, greatest}, true},
		{[]int64{0, 0, 0, 0, 0, 0, 0, greatest, 1}, false}, {[]int64{0, 0, 0, 0, 0, 0, 0, least, -1}, false}, // at the last one
		{[]int64{greatest, 0, 0, 0, 0, 0, 0, 0, 1}, false}, {[]int64{greatest, 0, 0, 0, 0, 0, 0, 0, 0}, true},
		{[]int64{1 << 60, 1 << 60, 1 << 60, 1 << 60, 1 << 60, 1 << 60, 1 << 60, 1 << 60}, false}, {[]int64{1 << 60, 1 << 60, 1 << 60, 1 << 60, 1 << 60, 1 << 60, 1 << 60, 1<<60 - 1}, true},
	}
}

// counts: likewise, of numbers of values.
func counts() []struct {
	values []int64
	fits   bool
} {
	return []struct {
		values []int64
		fits   bool
	}{
		{[]int64{greatest}, true}, {[]int64{greatest - 2, 2}, true}, {[]int64{greatest - 1, 2}, false}, {[]int64{2, greatest - 1}, false}, {[]int64{greatest, greatest}, false},
		{[]int64{1 << 62, 1<<62 - 1}, true}, {[]int64{1 << 62, 1 << 62}, false},
		{[]int64{2, 2, 2, 2, 2, greatest - 10}, true}, {[]int64{2, 2, 2, 2, 2, greatest - 9}, false},
		{[]int64{greatest - 9, 2, 2, 2, 2, 2}, false}, {[]int64{greatest - 9, 2, 2, 2, 2}, true},
	}
}

// cellLists: what sums and counts are, as cells, with what is told of them.
func cellLists() []struct {
	cells []api.Cell
	fits  bool
} {
	var l []struct {
		cells []api.Cell
		fits  bool
	}
	add := func(values []int64, fits bool, cellOf func(int64) api.Cell) {
		c := struct {
			cells []api.Cell
			fits  bool
		}{nil, fits}
		for _, v := range values {
			c.cells = append(c.cells, cellOf(v))
		}
		l = append(l, c)
	}
	for _, c := range sums() {
		add(c.values, c.fits, heavy)
	}
	for _, c := range counts() {
		add(c.values, c.fits, counted)
	}
	return l
}

// inHours: a row of each cell, each an hour behind the one ahead, of that group, and beside it one row of each of two other groups.
func inHours(cells []api.Cell, group string) []api.Row {
	var rows []api.Row
	for i, c := range cells {
		hour := int64(i) + 1
		for _, r := range []api.Row{rowOf(hour, c, group, "it"), rowOf(hour, one(1), "d", "other"), rowOf(hour, one(-1), "p", "other")} {
			rows, _ = put(rows, r)
		}
	}
	return rows
}

func TestSegOverflows(t *testing.T) { // of the first group, of one between, of the last one
	for _, c := range cellLists() {
		for _, group := range []string{"", "a", "g", "z"} {
			rows := inHours(c.cells, group)
			for _, q := range []api.Query{query(0, all, "G"), query(1, int64(len(c.cells)+1), "GGGG"), with(query(0, all, ""), 1, "it"), with(query(0, all, "..G"), 0, group)} {
				foldsSeg(t, q, rows)
				got, fault := Seg(q, segment(t, rows))
				same(t, "Seg: whether it fits", fault == api.OK, c.fits)
				same(t, "Seg: whether there are groups", len(got) > 0, c.fits)
			}
		}
	}
}

func TestSegOverflowsInOneGroupAlone(t *testing.T) { // the rows would not fit into one group, and fit into several
	rows := []api.Row{rowOf(1, heavy(greatest), "a", "x"), rowOf(1, heavy(greatest), "b", "x"), rowOf(2, heavy(least), "c", "x"), rowOf(3, heavy(least), "d", "y")}
	segTo(t, query(0, all, "G"), rows, groupOf(heavy(greatest), "a"), groupOf(heavy(greatest), "b"), groupOf(heavy(least), "c"), groupOf(heavy(least), "d"))
	segOverflows(t, query(0, all, ""), rows)
	segOverflows(t, query(0, all, ".G"), rows)
	segOverflows(t, query(1, 2, ".G"), rows)
	segOverflows(t, query(2, 4, ""), rows)
	segTo(t, query(2, 4, ".G"), rows, groupOf(heavy(least), "", "x"), groupOf(heavy(least), "", "y"))
}

func TestSegDoesNotOverflowByRowsThatDoNotMatch(t *testing.T) {
	rows := []api.Row{
		rowOf(1, heavy(greatest), "a", "x"), rowOf(1, heavy(1), "a", "y"),
		rowOf(2, heavy(greatest), "a", "x"), rowOf(2, heavy(2), "a", "y"),
		rowOf(3, heavy(greatest), "a", "x"), rowOf(3, heavy(-1), "a", "y"),
	}
	segOverflows(t, query(0, all, ""), rows)
	segOverflows(t, with(query(0, all, ""), 1, "x"), rows)
	segTo(t, with(query(0, all, ""), 1, "y"), rows, groupOf(api.Cell{Count: 6, Sum: 2, Min: -1, Max: 1}))
	segTo(t, with(query(0, all, "G"), 0, "b"), rows)
	segTo(t, query(3, all, ""), rows, groupOf(api.Cell{Count: 4, Sum: greatest - 1, Min: -1, Max: 1}))
	segTo(t, with(query(2, 3, ""), 1, "x"), rows, groupOf(heavy(greatest)))
	segOverflows(t, query(1, 2, ""), rows)
	segTo(t, query(0, 1, ""), rows)
	segTo(t, query(4, all, ""), rows)
	segTo(t, query(2, 2, ""), rows)
}

func TestSegOfQueriesThatAreNotRight(t *testing.T) { // they end
	ends := []int64{least, least + 1, -1, 0, 1, 2, 5, api.MaxHour, all, all + 1, greatest - 1, greatest}
	rows := []api.Row{rowOf(least, one(1), "a"), rowOf(-1, one(2), "a"), rowOf(1, one(3), "a"), rowOf(greatest, one(4), "a")}
	for _, from := range ends {
		for _, to := range ends {
			for _, q := range groupings(from, to) {
				q.Filter[0] = "a"
				Seg(q, segment(t, rows))
				Seg(q, nil)
				Facts(q, []api.Fact{factOf(least, 1, "a"), factOf(1, 2, "a"), factOf(greatest, 3, "a")})
				q = with(q, 3, strings.Repeat("a", 1000))
				Seg(q, segment(t, rows))
				Facts(q, nil)
			}
		}
	}
}
