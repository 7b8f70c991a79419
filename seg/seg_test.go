package seg

import (
	"math"
	"math/big"
	"slices"
	"strings"
	"testing"

	"ossuary/api"
)

const (
	least    = math.MinInt64
	greatest = math.MaxInt64
)

// same fails the test where got is not what the chapter says.
func same[T comparable](t *testing.T, what string, got, want T) {
	t.Helper()
	if got != want {
		t.Errorf("%s: %v, not %v", what, got, want)
	}
}

// tells ends the test where a list is not what the chapter says: what follows would most often be wrong, too.
func tells[T comparable](t *testing.T, what string, got []T, want ...T) {
	t.Helper()
	if !slices.Equal(got, want) {
		t.Fatalf("%s: %v, not %v", what, got, want)
	}
}

// rowAt: what At answers, to be compared at once.
type rowAt struct {
	row api.Row
	is  bool
}

func at(s *Seg, i int) rowAt {
	r, is := s.At(i)
	return rowAt{r, is}
}

// found: what Find and Total answer, likewise.
type found struct {
	cell api.Cell
	is   bool
}

func find(s *Seg, k api.Key) found {
	c, is := s.Find(k)
	return found{c, is}
}

func total(s *Seg) found {
	c, is := s.Total()
	return found{c, is}
}

func keyOf(hour int64, texts ...string) api.Key {
	k := api.Key{Hour: hour}
	copy(k.Dims[:], texts)
	return k
}

func factOf(hour, value int64, texts ...string) api.Fact {
	return api.Fact{Key: keyOf(hour, texts...), Value: value}
}

// withValues: a fact of each value, all of one key.
func withValues(values ...int64) []api.Fact {
	l := make([]api.Fact, len(values))
	for i, v := range values {
		l[i] = factOf(5, v, "a")
	}
	return l
}

func one(value int64) api.Cell {
	return api.Cell{Count: 1, Sum: value, Min: value, Max: value}
}

func rowOf(hour, value int64, texts ...string) api.Row {
	return api.Row{Key: keyOf(hour, texts...), Cell: one(value)}
}

// ahead: whether a comes before b, by the words of the facts' chapter.
func ahead(a, b api.Key) bool {
	if a.Hour != b.Hour {
		return a.Hour < b.Hour
	}
	for i := range a.Dims {
		if a.Dims[i] != b.Dims[i] {
			return a.Dims[i] < b.Dims[i]
		}
	}
	return false
}

// sum: two numbers as one, reckoned without a bound; false: no int64 holds it.
func sum(a, b int64) (int64, bool) {
	whole := new(big.Int).Add(big.NewInt(a), big.NewInt(b))
	if !whole.IsInt64() {
		return 0, false
	}
	return whole.Int64(), true
}

// merged: what two cells of a Count above 0 come to, by the words of the cells' chapter.
func merged(a, b api.Cell) (api.Cell, bool) {
	count, counted := sum(a.Count, b.Count)
	whole, summed := sum(a.Sum, b.Sum)
	if !counted || !summed {
		return api.Cell{}, false
	}
	c := api.Cell{Count: count, Sum: whole, Min: a.Min, Max: a.Max}
	if b.Min < c.Min {
		c.Min = b.Min
	}
	if b.Max > c.Max {
		c.Max = b.Max
	}
	return c, true
}

// put: rows, and a further one: put at its place, or merged into the one that is there. False: it can't be.
func put(rows []api.Row, r api.Row) ([]api.Row, bool) {
	place := 0
	for place < len(rows) && ahead(rows[place].Key, r.Key) {
		place++
	}
	if place == len(rows) || rows[place].Key != r.Key {
		return slices.Insert(rows, place, r), true
	}
	c, ok := merged(rows[place].Cell, r.Cell)
	rows[place].Cell = c
	return rows, ok
}

// putAll: rows of any keys in any order, put one by one.
func putAll(l []api.Row) ([]api.Row, bool) {
	rows := []api.Row{}
	for _, r := range l {
		var ok bool
		if rows, ok = put(rows, r); !ok {
			return nil, false
		}
	}
	return rows, true
}

// rowsOf: the rows that facts come to, put one by one.
func rowsOf(l []api.Fact) ([]api.Row, bool) {
	rows := make([]api.Row, len(l))
	for i, f := range l {
		rows[i] = api.Row{Key: f.Key, Cell: one(f.Value)}
	}
	return putAll(rows)
}

// collect: what a range tells.
func collect(s *Seg, from, to int64) []api.Row {
	var l []api.Row
	for r := range s.Range(from, to) {
		l = append(l, r)
	}
	return l
}

// between: those of rows that are of hours from from on, below to.
func between(rows []api.Row, from, to int64) []api.Row {
	var l []api.Row
	for _, r := range rows {
		if from <= r.Key.Hour && r.Key.Hour < to {
			l = append(l, r)
		}
	}
	return l
}

// noPlaces: numbers that are no row's place, where there are n rows.
func noPlaces(n int) []int {
	return []int{math.MinInt, math.MinInt + 1, -n - 2, -n - 1, -2, -1, n, n + 1, 2*n + 1, math.MaxInt - 1, math.MaxInt}
}

// has: s has just these rows, in each way that it can be asked.
func has(t *testing.T, what string, s *Seg, rows []api.Row) {
	t.Helper()
	if s == nil {
		t.Fatalf("%s: no segment", what)
	}
	got := make([]api.Row, 0, s.Len())
	for i := range s.Len() {
		r, is := s.At(i)
		same(t, what+": whether there is a row", is, true)
		got = append(got, r)
	}
	tells(t, what, got, rows...)
	for _, r := range rows {
		same(t, what+": Find", find(s, r.Key), found{r.Cell, true})
	}
	for _, i := range noPlaces(len(rows)) {
		same(t, what+": At of no row", at(s, i), rowAt{})
	}
	tells(t, what+": Range", collect(s, least, greatest), between(rows, least, greatest)...)
}

// stir hands out numbers from 0 to below, without a pattern, the same ones in each run.
func stir(seed uint64) func(below int) int {
	return func(below int) int {
		seed = seed*6364136223846793005 + 1442695040888963407
		return int(seed>>33) % below
	}
}

// some: facts that are right, without a pattern, of few hours and texts, so that many are of one key.
func some(n int, seed uint64) []api.Fact {
	throw := stir(seed)
	hours := []int64{0, 1, 2, 127, 128, api.MaxHour - 1, api.MaxHour}
	texts := []string{"", "a", "b", "\xff"}
	l := make([]api.Fact, n)
	for i := range l {
		l[i] = factOf(hours[throw(len(hours))], int64(throw(2001)-1000))
		for d := range throw(api.Dims + 1) {
			l[i].Key.Dims[d] = texts[throw(len(texts))]
		}
	}
	return l
}

// orders: all orders of things.
func orders[T any](things []T) [][]T {
	if len(things) == 0 {
		return [][]T{nil}
	}
	var l [][]T
	for i, x := range things {
		for _, rest := range orders(slices.Delete(slices.Clone(things), i, i+1)) {
			l = append(l, append([]T{x}, rest...))
		}
	}
	return l
}

// lists: all lists of at most most things out of these.
func lists[T any](things []T, most int) [][]T {
	all := [][]T{{}}
	last := all
	for range most {
		var next [][]T
		for _, l := range last {
			for _, x := range things {
				next = append(next, append(slices.Clone(l), x))
			}
		}
		all, last = append(all, next...), next
	}
	return all
}

// rising: keys in order, unlike in the hour alone, in each dimension alone, and in several.
func rising() []api.Key {
	l := []api.Key{
		keyOf(least, "z"), keyOf(-1, "", "", "", "a"), keyOf(0),
		keyOf(5), keyOf(5, "", "", "", "\x00"), keyOf(5, "", "", "", "a"), keyOf(5, "", "", "", "b"),
		keyOf(5, "", "", "a"), keyOf(5, "", "", "b"), keyOf(5, "", "", "b", "a"),
		keyOf(5, "", "a"), keyOf(5, "", "b"), keyOf(5, "", "b", "", "z"),
		keyOf(5, "A"), keyOf(5, "a"), keyOf(5, "a", "a"), keyOf(5, "a", "a", "a"), keyOf(5, "a", "a", "a", "a"), keyOf(5, "a", "a", "a", "b"),
		keyOf(5, "aa"), keyOf(5, "ab"), keyOf(5, "b"), keyOf(5, "\x80"), keyOf(5, "\xff", "\xff", "\xff", "\xff"), keyOf(5, "\xff\x00"),
		keyOf(6), keyOf(6, "a"), keyOf(10), keyOf(api.MaxHour), keyOf(api.MaxHour, "a"), keyOf(greatest-1, "b"), keyOf(greatest),
	}
	return l
}

// risingRows: a row of each of these keys, no two of them with one cell.
func risingRows(keys []api.Key) []api.Row {
	l := make([]api.Row, len(keys))
	for i, k := range keys {
		l[i] = api.Row{Key: k, Cell: api.Cell{Count: int64(i) + 2, Sum: int64(i), Min: -int64(i), Max: 3}}
	}
	return l
}

// roomy: a list with spare room behind it, and a check that neither changed.
func roomy[T comparable](t *testing.T, l []T, spare T) ([]T, func(what string)) {
	whole := append(slices.Clone(l), spare, spare, spare)
	kept := slices.Clone(whole)
	return whole[:len(l)], func(what string) {
		t.Helper()
		tells(t, what+": what was handed in", whole, kept...)
	}
}

// isOf: Of of l has these rows.
func isOf(t *testing.T, l []api.Fact, rows []api.Row) {
	t.Helper()
	s, fault := Of(l)
	same(t, "Of's fault", fault, api.OK)
	has(t, "Of", s, rows)
}

func ofOverflows(t *testing.T, l []api.Fact) {
	t.Helper()
	s, fault := Of(l)
	same(t, "Of's fault", fault, api.Overflow)
	same(t, "whether Of is a segment", s != nil, false)
}

// isRows: Rows of l is a segment of these.
func isRows(t *testing.T, l []api.Row) *Seg {
	t.Helper()
	s, fault := Rows(l)
	same(t, "Rows' fault", fault, api.OK)
	has(t, "Rows", s, l)
	return s
}

func noRows(t *testing.T, l []api.Row) {
	t.Helper()
	s, fault := Rows(l)
	same(t, "Rows' fault", fault, api.Malformed)
	same(t, "whether Rows is a segment", s != nil, false)
}

// --- P1101: Of

func TestExample(t *testing.T) {
	isOf(t, withValues(3, -1), []api.Row{{Key: keyOf(5, "a"), Cell: api.Cell{Count: 2, Sum: 2, Min: -1, Max: 3}}})
	isOf(t, withValues(-1, 3), []api.Row{{Key: keyOf(5, "a"), Cell: api.Cell{Count: 2, Sum: 2, Min: -1, Max: 3}}})
}

func TestOfNoFact(t *testing.T) {
	isOf(t, nil, nil)
	isOf(t, []api.Fact{}, nil)
}

func TestOfOneFact(t *testing.T) {
	for _, k := range rising() {
		for _, v := range []int64{0, 1, -1, 7, api.MaxValue, -api.MaxValue, least, greatest} {
			isOf(t, []api.Fact{{Key: k, Value: v}}, []api.Row{{Key: k, Cell: one(v)}})
		}
	}
}

func TestOfFactsOfOneKey(t *testing.T) {
	for _, c := range []struct {
		values []int64
		want   api.Cell
	}{
		{[]int64{0, 0}, api.Cell{Count: 2}},
		{[]int64{4, 4, 4}, api.Cell{Count: 3, Sum: 12, Min: 4, Max: 4}},
		{[]int64{5, -5}, api.Cell{Count: 2, Min: -5, Max: 5}},
		{[]int64{4, 9, -6, 2, 0}, api.Cell{Count: 5, Sum: 9, Min: -6, Max: 9}},
		{[]int64{-4, -9, -6}, api.Cell{Count: 3, Sum: -19, Min: -9, Max: -4}},
		{[]int64{api.MaxValue, api.MaxValue, -api.MaxValue}, api.Cell{Count: 3, Sum: api.MaxValue, Min: -api.MaxValue, Max: api.MaxValue}},
		{[]int64{greatest, least, 1}, api.Cell{Count: 3, Min: least, Max: greatest}},
	} {
		isOf(t, withValues(c.values...), []api.Row{{Key: keyOf(5, "a"), Cell: c.want}})
	}
}

func TestOfFactsInEachOrder(t *testing.T) {
	l := []api.Fact{factOf(4, 1, "b"), factOf(4, 2, "b"), factOf(5, 3), factOf(5, 4, "", "a"), factOf(5, 5, "a"), factOf(5, 6)}
	want := []api.Row{
		{Key: keyOf(4, "b"), Cell: api.Cell{Count: 2, Sum: 3, Min: 1, Max: 2}},
		{Key: keyOf(5), Cell: api.Cell{Count: 2, Sum: 9, Min: 3, Max: 6}},
		rowOf(5, 4, "", "a"),
		rowOf(5, 5, "a"),
	}
	for _, facts := range orders(l) {
		isOf(t, facts, want)
	}
}

func TestOfFactsThatRiseAndFall(t *testing.T) {
	var up []api.Fact
	var want []api.Row
	for i, k := range rising() {
		up = append(up, api.Fact{Key: k, Value: int64(i)})
		want = append(want, api.Row{Key: k, Cell: one(int64(i))})
	}
	down := slices.Clone(up)
	slices.Reverse(down)
	isOf(t, up, want)
	isOf(t, down, want)
	mixed := []api.Fact{}
	for i := range up {
		mixed = append(mixed, up[i*7%len(up)])
	}
	isOf(t, mixed, want)
	for i := range want {
		v := want[i].Cell.Sum
		want[i].Cell = api.Cell{Count: 2, Sum: 2 * v, Min: v, Max: v}
	}
	isOf(t, slices.Concat(down, up), want)
}

func TestOfEachTwoKeys(t *testing.T) { // among them those that are unlike in the hour alone, and in each dimension alone
	for i, a := range rising() {
		for j, b := range rising() {
			l := []api.Fact{{Key: a, Value: 7}, {Key: b, Value: -8}}
			switch {
			case i < j:
				isOf(t, l, []api.Row{{Key: a, Cell: one(7)}, {Key: b, Cell: one(-8)}})
			case i > j:
				isOf(t, l, []api.Row{{Key: b, Cell: one(-8)}, {Key: a, Cell: one(7)}})
			default:
				isOf(t, l, []api.Row{{Key: a, Cell: api.Cell{Count: 2, Sum: -1, Min: -8, Max: 7}}})
			}
		}
	}
}

func TestOfValuesInTheOrderInWhichTheyCome(t *testing.T) {
	for _, values := range lists([]int64{greatest, 1, 0, -1, least, 1 << 62}, 5) {
		facts := withValues(values...)
		if rows, ok := rowsOf(facts); ok {
			isOf(t, facts, rows)
		} else {
			ofOverflows(t, facts)
		}
	}
	isOf(t, withValues(greatest, -1, 1), []api.Row{{Key: keyOf(5, "a"), Cell: api.Cell{Count: 3, Sum: greatest, Min: -1, Max: greatest}}})
	ofOverflows(t, withValues(greatest, 1, -1)) // the same ones in another order
	isOf(t, withValues(least, 1, -1), []api.Row{{Key: keyOf(5, "a"), Cell: api.Cell{Count: 3, Sum: least, Min: least, Max: 1}}})
	ofOverflows(t, withValues(least, -1, 1))
}

func TestOfRightValuesThatOverflow(t *testing.T) {
	const most = api.MaxValue
	isOf(t, withValues(slices.Repeat([]int64{most}, 7)...), []api.Row{{Key: keyOf(5, "a"), Cell: api.Cell{Count: 7, Sum: 7 * most, Min: most, Max: most}}})
	ofOverflows(t, withValues(slices.Repeat([]int64{most}, 8)...))
	ofOverflows(t, withValues(append(slices.Repeat([]int64{most}, 8), -most)...))
	isOf(t, withValues(append([]int64{-most}, slices.Repeat([]int64{most}, 8)...)...), []api.Row{{Key: keyOf(5, "a"), Cell: api.Cell{Count: 9, Sum: 7 * most, Min: -most, Max: most}}})
	isOf(t, withValues(slices.Repeat([]int64{-most}, 8)...), []api.Row{{Key: keyOf(5, "a"), Cell: api.Cell{Count: 8, Sum: least, Min: -most, Max: -most}}})
	ofOverflows(t, withValues(slices.Repeat([]int64{-most}, 9)...))
}

func TestOfOneKeyOfSeveralOverflows(t *testing.T) {
	for wrong := range 5 {
		var l []api.Fact
		for _, v := range []int64{greatest, 1, -1} {
			for i := range 5 {
				f := factOf(int64(i/2), 1, string(rune('a'+i)))
				if i == wrong {
					f.Value = v
				}
				l = append(l, f)
			}
		}
		ofOverflows(t, l)
		slices.Reverse(l) // -1, 1 and the greatest go together
		rows, _ := rowsOf(l)
		isOf(t, l, rows)
	}
}

func TestOfSeveralKeysOfGreatValues(t *testing.T) { // no cell is merged with another key's
	var l []api.Fact
	var want []api.Row
	for i, k := range rising() {
		v := int64(greatest)
		if i%3 == 0 {
			v = least
		}
		l = append(l, api.Fact{Key: k, Value: v})
		want = append(want, api.Row{Key: k, Cell: one(v)})
	}
	isOf(t, l, want)
}

func TestOfFactsThatAreNotRight(t *testing.T) { // nothing of Of asks that they are
	long := strings.Repeat("x", 1000)
	isOf(t, []api.Fact{factOf(greatest, 1), factOf(-7, greatest, long), factOf(least, least), factOf(-7, -1, long)}, []api.Row{
		rowOf(least, least),
		{Key: keyOf(-7, long), Cell: api.Cell{Count: 2, Sum: greatest - 1, Min: -1, Max: greatest}},
		rowOf(greatest, 1),
	})
}

func TestOfTheListStaysAsItIs(t *testing.T) {
	l, stayed := roomy(t, []api.Fact{factOf(6, 1), factOf(5, 2, "b"), factOf(5, 3, "a"), factOf(6, 4)}, factOf(0, -9, "spare"))
	s, _ := Of(l)
	stayed("Of")
	want := []api.Row{rowOf(5, 3, "a"), rowOf(5, 2, "b"), {Key: keyOf(6), Cell: api.Cell{Count: 2, Sum: 5, Min: 1, Max: 4}}}
	has(t, "Of", s, want)
	for i := range l {
		l[i] = factOf(7, 100, "z")
	}
	has(t, "Of, when the list is changed behind it", s, want)
	ofOverflows(t, withValues(greatest, greatest))
	l, stayed = roomy(t, withValues(3, greatest, 2), factOf(1, 1))
	ofOverflows(t, l)
	stayed("Of with a fault")
}

func TestOfManyFacts(t *testing.T) {
	for seed := range uint64(20) {
		l := some(300, seed)
		rows, _ := rowsOf(l)
		same(t, "some come twice", len(rows) < 300, true)
		isOf(t, l, rows)
	}
	const many = 50000
	var want []api.Row
	for i := range many {
		want = append(want, rowOf(int64(i/10), int64(i), string(rune('a'+i%10))))
	}
	var up, mixed []api.Fact
	for i := range many {
		j := i * 30011 % many
		up, mixed = append(up, api.Fact{Key: want[i].Key, Value: int64(i)}), append(mixed, api.Fact{Key: want[j].Key, Value: int64(j)})
	}
	down := slices.Clone(up)
	slices.Reverse(down)
	for _, l := range [][]api.Fact{up, down, mixed} {
		isOf(t, l, want)
	}
}

// --- P1101: Rows

func TestRowsOfNoRow(t *testing.T) {
	isRows(t, nil)
	isRows(t, []api.Row{})
}

func TestRowsThatRise(t *testing.T) {
	all := risingRows(rising())
	for n := range len(all) + 1 {
		isRows(t, all[:n])
		isRows(t, all[n:])
	}
	var some []api.Row
	for i := 0; i < len(all); i += 3 {
		some = append(some, all[i])
	}
	isRows(t, some)
}

func TestRowsOfEachTwoKeys(t *testing.T) {
	all := risingRows(rising())
	for i, a := range all {
		for j, b := range all {
			if i < j {
				isRows(t, []api.Row{a, b})
			} else {
				noRows(t, []api.Row{a, b})
			}
		}
	}
}

func TestRowsOfTwoEqualKeys(t *testing.T) {
	all := risingRows(rising())
	for i, r := range all {
		noRows(t, slices.Insert(slices.Clone(all), i, r))
		r.Cell = one(77)
		noRows(t, slices.Insert(slices.Clone(all), i, r))
		noRows(t, slices.Insert(slices.Clone(all), i+1, r))
		noRows(t, []api.Row{r, r})
	}
}

func TestRowsInTheOtherOrder(t *testing.T) { // at the beginning, in the middle, at the end; next to one another, and far away
	all := risingRows(rising())
	for i := range all {
		for j := range i {
			l := slices.Clone(all)
			l[i], l[j] = l[j], l[i]
			noRows(t, l)
		}
	}
	falling := slices.Clone(all)
	slices.Reverse(falling)
	noRows(t, falling)
	for _, l := range orders(all[3:8]) {
		if slices.Equal(l, all[3:8]) {
			isRows(t, l)
		} else {
			noRows(t, l)
		}
	}
}

func TestRowsOfEachCell(t *testing.T) { // at each place
	numbers := []int64{0, 1, -1, 2, 3, least, greatest}
	all := risingRows(rising()[3:7])
	for _, l := range lists(numbers, 4) {
		if len(l) < 4 {
			continue
		}
		c := api.Cell{Count: l[0], Sum: l[1], Min: l[2], Max: l[3]}
		right := c.Count > 1 && c.Min <= c.Max || c.Count == 1 && c.Sum == c.Min && c.Sum == c.Max
		for i := range all {
			rows := slices.Clone(all)
			rows[i].Cell = c
			if right {
				isRows(t, rows)
			} else {
				noRows(t, rows)
			}
		}
	}
}

func TestRowsOfACountThatIsNotAboveZero(t *testing.T) {
	all := risingRows(rising())
	for _, c := range []api.Cell{{}, {Sum: 1}, {Min: 1, Max: 1}, {Count: -1}, {Count: -1, Sum: 5, Min: 5, Max: 5}, {Count: -2, Sum: 3, Min: 1, Max: 2}, {Count: least}, {Count: least, Sum: 1, Min: -1, Max: 1}} {
		noRows(t, []api.Row{{Key: keyOf(5), Cell: c}})
		for i := range all {
			l := slices.Clone(all)
			l[i].Cell = c
			noRows(t, l)
		}
	}
}

func TestRowsTheListStaysAsItIs(t *testing.T) {
	all := risingRows(rising())
	l, stayed := roomy(t, all, rowOf(0, 1, "spare"))
	s, _ := Rows(l)
	stayed("Rows")
	for i := range l {
		l[i] = rowOf(7, 100, "z")
	}
	has(t, "Rows, when the list is changed behind it", s, all)
	noRows(t, l)
	wrong := slices.Clone(all)
	slices.Reverse(wrong)
	l, stayed = roomy(t, wrong, rowOf(0, 1))
	noRows(t, l)
	stayed("Rows with a fault")
}

// --- P1102

func TestAt(t *testing.T) {
	all := risingRows(rising())
	for n := range len(all) + 1 {
		s, _ := Rows(all[:n])
		same(t, "Len", s.Len(), n)
		for i := range n {
			same(t, "At", at(s, i), rowAt{all[i], true})
		}
		for _, i := range noPlaces(n) {
			same(t, "At of no row", at(s, i), rowAt{})
		}
	}
}

func TestFind(t *testing.T) {
	all := risingRows(rising())
	for choice := range 2 {
		var in []api.Row
		for i := choice; i < len(all); i += 2 {
			in = append(in, all[i])
		}
		s, _ := Rows(in)
		for i, r := range all { // one ahead of all, each between two, one behind all
			want := found{}
			if i%2 == choice {
				want = found{r.Cell, true}
			}
			same(t, "Find", find(s, r.Key), want)
		}
	}
	for i, r := range all { // where there is one row alone, or all but one
		s, _ := Rows([]api.Row{r})
		rest, _ := Rows(slices.Delete(slices.Clone(all), i, i+1))
		for j, other := range all {
			want := found{other.Cell, true}
			if i == j {
				same(t, "Find of one", find(s, other.Key), want)
				same(t, "Find of the others", find(rest, other.Key), found{})
			} else {
				same(t, "Find of one", find(s, other.Key), found{})
				same(t, "Find of the others", find(rest, other.Key), want)
			}
		}
	}
}

func TestFindOfKeysThatAreNearby(t *testing.T) {
	s, _ := Rows([]api.Row{rowOf(5, 1, "b", "b", "b", "b")})
	same(t, "Find", find(s, keyOf(5, "b", "b", "b", "b")), found{one(1), true})
	for _, k := range []api.Key{{}, keyOf(5), keyOf(5, "b"), keyOf(4, "b", "b", "b", "b"), keyOf(6, "b", "b", "b", "b"), keyOf(least, "b", "b", "b", "b"), keyOf(greatest, "b", "b", "b", "b")} {
		same(t, "Find of another hour, or of fewer dimensions", find(s, k), found{})
	}
	for dim := range api.Dims {
		for _, text := range []string{"", "a", "B", "b\x00", "bb", "c"} {
			k := keyOf(5, "b", "b", "b", "b")
			k.Dims[dim] = text
			same(t, "Find of another text", find(s, k), found{})
		}
	}
}

// hours: those of rising, ones next to them, and others.
func hours() []int64 {
	return []int64{least, least + 1, -100, -2, -1, 0, 1, 4, 5, 6, 7, 9, 10, 11, 100, api.MaxHour - 1, api.MaxHour, api.MaxHour + 1, greatest - 2, greatest - 1, greatest}
}

func TestRangeAndPart(t *testing.T) { // of all hours, of none, from above to and equal to it, of the least and the greatest
	all := risingRows(rising())
	for _, rows := range [][]api.Row{all, all[3:25], all[:1], all[len(all)-1:], nil} {
		s, _ := Rows(rows)
		for _, from := range hours() {
			for _, to := range hours() {
				want := between(rows, from, to)
				tells(t, "Range", collect(s, from, to), want...)
				has(t, "Part", s.Part(from, to), want)
			}
		}
		has(t, "the segment behind that", s, rows)
	}
}

func TestRangeByWords(t *testing.T) {
	s, _ := Rows([]api.Row{rowOf(3, 1), rowOf(5, 2, "a"), rowOf(5, 3, "b"), rowOf(6, 4), rowOf(9, 5)})
	a, b := rowOf(5, 2, "a"), rowOf(5, 3, "b")
	tells(t, "Range of one hour", collect(s, 5, 6), a, b)
	tells(t, "Range up to an hour", collect(s, 4, 6), a, b)
	tells(t, "Range from an hour on", collect(s, 5, 7), a, b, rowOf(6, 4))
	tells(t, "Range of hours without a row", collect(s, 7, 9))
	tells(t, "Range ahead", collect(s, 0, 3))
	tells(t, "Range behind", collect(s, 10, 20))
	tells(t, "Range of from above to", collect(s, 6, 5))
	tells(t, "Range of from equal to to", collect(s, 5, 5))
}

func TestRangeThatIsLeft(t *testing.T) { // at each row
	all := risingRows(rising())[:20]
	s, _ := Rows(all)
	for n := range all {
		var got []api.Row
		for r := range s.Range(least, greatest) {
			got = append(got, r)
			if len(got) > n {
				break
			}
		}
		tells(t, "Range that is left", got, all[:n+1]...)
		asked := 0
		s.Range(least, greatest)(func(api.Row) bool { asked++; return asked <= n })
		same(t, "how often a Range asked whether to go on", asked, n+1)
	}
	has(t, "the segment behind that", s, all)
}

func TestRangeAgainAndWithinAnother(t *testing.T) {
	all := risingRows(rising())[:8]
	s, _ := Rows(all)
	each := s.Range(least, greatest)
	for range 3 {
		var got []api.Row
		for r := range each {
			got = append(got, r)
			tells(t, "Range within a Range", slices.Collect(each), all...)
			tells(t, "another Range within a Range", collect(s, 5, 6), between(all, 5, 6)...)
		}
		tells(t, "Range", got, all...)
	}
}

func TestRangeHandsOutCopies(t *testing.T) {
	all := risingRows(rising())
	s, _ := Rows(all)
	for r := range s.Range(least, greatest) {
		r.Key.Dims[0], r.Cell.Sum = "changed", 99
	}
	r, _ := s.At(3)
	r.Key.Hour, r.Cell.Count = 99, 99
	has(t, "the segment", s, all)
}

func TestPartIsASegmentOfItsOwn(t *testing.T) {
	all := risingRows(rising())
	s, _ := Rows(all)
	p := s.Part(5, 6)
	same(t, "whether Part is another segment", p != s && s.Part(least, greatest) != s, true)
	want := between(all, 5, 6)
	other, _ := Rows([]api.Row{rowOf(4, 7), rowOf(5, 9, "a"), rowOf(6, 8)})
	Merge(p, other)
	Merge(other, p)
	has(t, "Part", p, want)
	has(t, "Part of a Part", p.Part(0, 6), want)
	has(t, "Part of a Part", p.Part(6, 9), nil)
	has(t, "the segment", s, all)
}

func TestTotal(t *testing.T) {
	for _, c := range []struct {
		cells []api.Cell
		want  api.Cell
	}{
		{nil, api.Cell{}},
		{[]api.Cell{one(0)}, one(0)}, {[]api.Cell{one(7)}, one(7)}, {[]api.Cell{one(least)}, one(least)},
		{[]api.Cell{{Count: 3, Sum: 5, Min: -2, Max: 4}}, api.Cell{Count: 3, Sum: 5, Min: -2, Max: 4}},
		{[]api.Cell{one(3), one(-1)}, api.Cell{Count: 2, Sum: 2, Min: -1, Max: 3}},
		{[]api.Cell{one(3), one(8), one(4)}, api.Cell{Count: 3, Sum: 15, Min: 3, Max: 8}},
		{[]api.Cell{one(-3), one(-8), one(-4)}, api.Cell{Count: 3, Sum: -15, Min: -8, Max: -3}},
		{[]api.Cell{{Count: 3, Sum: 5, Min: -2, Max: 4}, {Count: 2, Sum: 9, Min: 1, Max: 8}}, api.Cell{Count: 5, Sum: 14, Min: -2, Max: 8}},
		{[]api.Cell{one(greatest), one(least)}, api.Cell{Count: 2, Sum: -1, Min: least, Max: greatest}},
		{[]api.Cell{{Count: greatest - 1, Sum: 1}, one(2)}, api.Cell{Count: greatest, Sum: 3, Max: 2}},
	} {
		s := isRows(t, withCells(c.cells...))
		same(t, "Total", total(s), found{c.want, true})
	}
}

// withCells: a row of each cell, by keys that rise.
func withCells(cells ...api.Cell) []api.Row {
	l := make([]api.Row, len(cells))
	for i, c := range cells {
		l[i] = api.Row{Key: keyOf(int64(i/2), string(rune('a'+i))), Cell: c}
	}
	return l
}

func TestTotalGoesInOrder(t *testing.T) {
	for _, values := range lists([]int64{greatest, 1, 0, -1, least}, 5) {
		cells := make([]api.Cell, len(values))
		for i, v := range values {
			cells[i] = one(v)
		}
		want := found{api.Cell{}, true}
		for i, c := range cells {
			if i == 0 {
				want = found{c, true}
			} else if want.is {
				want.cell, want.is = merged(want.cell, c)
			}
		}
		s, _ := Rows(withCells(cells...))
		same(t, "Total", total(s), want)
	}
	s, _ := Rows(withCells(one(greatest), one(1), one(-1)))
	same(t, "Total of what can't be merged in order", total(s), found{})
	s, _ = Rows(withCells(one(greatest), one(-1), one(1)))
	same(t, "Total of what can", total(s), found{api.Cell{Count: 3, Sum: greatest, Min: -1, Max: greatest}, true})
}

func TestTotalOfCountsBeyond(t *testing.T) {
	s, _ := Rows(withCells(api.Cell{Count: greatest, Sum: 1}, one(0)))
	same(t, "Total", total(s), found{})
	s, _ = Rows(withCells(one(0), one(0), api.Cell{Count: greatest - 1}))
	same(t, "Total", total(s), found{})
}

// alike: whether Same of two is what it is to be, either way round.
func alike(t *testing.T, what string, a, b *Seg, want bool) {
	t.Helper()
	same(t, "Same: "+what, a.Same(b), want)
	same(t, "Same, the other way round: "+what, b.Same(a), want)
}

func TestSame(t *testing.T) {
	all := risingRows(rising())
	for n := range len(all) + 1 {
		s, _ := Rows(all[:n])
		other, _ := Rows(slices.Clone(all[:n]))
		alike(t, "itself", s, s, true)
		alike(t, "one alike", s, other, true)
		for m := range n {
			fewer, _ := Rows(all[:m])
			alike(t, "more rows behind", s, fewer, false)
		}
		for m := 1; m <= n; m++ {
			fewer, _ := Rows(all[m:n])
			alike(t, "more rows ahead", s, fewer, false)
		}
		for i := range n {
			fewer, _ := Rows(slices.Delete(slices.Clone(all[:n]), i, i+1))
			alike(t, "one row more", s, fewer, false)
		}
	}
}

func TestSameOfUnlikeRows(t *testing.T) {
	rows := []api.Row{
		{Key: keyOf(3, "b", "b", "b", "b"), Cell: api.Cell{Count: 4, Sum: 5, Min: -6, Max: 7}},
		{Key: keyOf(5, "b", "b", "b", "b"), Cell: api.Cell{Count: 4, Sum: 5, Min: -6, Max: 7}},
		{Key: keyOf(7, "b", "b", "b", "b"), Cell: api.Cell{Count: 4, Sum: 5, Min: -6, Max: 7}},
	}
	s := isRows(t, rows)
	change := map[string]func(*api.Row){
		"hour":   func(r *api.Row) { r.Key.Hour++ },
		"first":  func(r *api.Row) { r.Key.Dims[0] = "a" },
		"second": func(r *api.Row) { r.Key.Dims[1] = "" },
		"third":  func(r *api.Row) { r.Key.Dims[2] = "bb" },
		"fourth": func(r *api.Row) { r.Key.Dims[3] = "B" },
		"count":  func(r *api.Row) { r.Cell.Count = 5 },
		"sum":    func(r *api.Row) { r.Cell.Sum = -5 },
		"min":    func(r *api.Row) { r.Cell.Min = -7 },
		"max":    func(r *api.Row) { r.Cell.Max = 6 },
	}
	for what, put := range change {
		for i := range rows {
			l := slices.Clone(rows)
			put(&l[i])
			alike(t, what, s, isRows(t, l), false)
		}
	}
}

func TestSameOfWhatIsMadeOtherwise(t *testing.T) {
	a, _ := Of([]api.Fact{factOf(5, 3, "a"), factOf(4, 1), factOf(5, -1, "a")})
	b, _ := Rows([]api.Row{rowOf(4, 1), {Key: keyOf(5, "a"), Cell: api.Cell{Count: 2, Sum: 2, Min: -1, Max: 3}}})
	c, _ := Merge(a.Part(5, 6), a.Part(4, 5))
	for _, s := range []*Seg{a, b, c, a.Part(0, 9)} {
		alike(t, "made otherwise", a, s, true)
		alike(t, "made otherwise", b, s, true)
	}
	short, _ := Rows([]api.Row{rowOf(1, 2, strings.Clone("text"))})
	again, _ := Rows([]api.Row{rowOf(1, 2, "te"+strings.Clone("xt"))})
	alike(t, "texts in other memory", short, again, true)
}

// --- nil, and the zero value

func TestNil(t *testing.T) {
	full, _ := Rows(risingRows(rising()))
	empty, _ := Of(nil)
	for _, s := range []*Seg{nil, {}, empty} {
		same(t, "Len", s.Len(), 0)
		for _, i := range noPlaces(0) {
			same(t, "At", at(s, i), rowAt{})
		}
		for _, k := range rising() {
			same(t, "Find", find(s, k), found{})
		}
		for _, from := range hours() {
			for _, to := range hours() {
				tells(t, "Range", collect(s, from, to))
				has(t, "Part", s.Part(from, to), nil)
			}
		}
		same(t, "Total", total(s), found{api.Cell{}, true})
		for _, other := range []*Seg{nil, {}, empty} {
			alike(t, "no row on either side", s, other, true)
		}
		alike(t, "no row on one side", s, full, false)
	}
	isOf(t, nil, nil)
	isRows(t, nil)
}
