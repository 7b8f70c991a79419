package seg

import (
	"slices"
	"testing"

	"ossuary/api"
)

// segs: a segment of each of these lists of rows; of a nil list a nil one.
func segs(t *testing.T, lists ...[]api.Row) []*Seg {
	t.Helper()
	l := make([]*Seg, len(lists))
	for i, rows := range lists {
		if rows == nil {
			continue
		}
		s, fault := Rows(rows)
		if fault != api.OK {
			t.Fatalf("rows of a test: %v", fault)
		}
		l[i] = s
	}
	return l
}

// merges: Merge of segments of these lists is what putting their rows one by one comes to, or Overflow; all that came in stay as they are.
func merges(t *testing.T, lists ...[]api.Row) {
	t.Helper()
	l := segs(t, lists...)
	room, stayed := roomy(t, l, &Seg{})
	s, fault := Merge(room...)
	if want, ok := putAll(slices.Concat(lists...)); ok {
		same(t, "Merge's fault", fault, api.OK)
		has(t, "Merge", s, want)
		same(t, "whether Merge is another segment", slices.Contains(l, s), false)
	} else {
		same(t, "Merge's fault", fault, api.Overflow)
		same(t, "whether Merge is a segment", s != nil, false)
	}
	stayed("Merge")
	for i, rows := range lists {
		if rows != nil {
			has(t, "what was merged", l[i], rows)
		}
	}
}

// mergesTo: likewise, and the rows are told.
func mergesTo(t *testing.T, want []api.Row, lists ...[]api.Row) {
	t.Helper()
	merges(t, lists...)
	s, fault := Merge(segs(t, lists...)...)
	same(t, "Merge's fault", fault, api.OK)
	has(t, "Merge", s, want)
}

func mergeOverflows(t *testing.T, lists ...[]api.Row) {
	t.Helper()
	merges(t, lists...)
	s, fault := Merge(segs(t, lists...)...)
	same(t, "Merge's fault", fault, api.Overflow)
	same(t, "whether Merge is a segment", s != nil, false)
}

// singles: a list of one row for each value, all of one key.
func singles(values ...int64) [][]api.Row {
	l := make([][]api.Row, len(values))
	for i, v := range values {
		l[i] = []api.Row{rowOf(5, v, "a")}
	}
	return l
}

// --- P1101: Merge

func TestMergeOfNothing(t *testing.T) {
	mergesTo(t, nil)
	s, fault := Merge()
	same(t, "Merge's fault", fault, api.OK)
	has(t, "Merge", s, nil)
	for n := range 10 {
		s, fault := Merge(make([]*Seg, n)...)
		same(t, "Merge's fault, of nil ones", fault, api.OK)
		has(t, "Merge of nil ones", s, nil)
		mergesTo(t, nil, make([][]api.Row, n)...)
		mergesTo(t, nil, slices.Repeat([][]api.Row{{}}, n)...)
	}
	s, fault = Merge(&Seg{}, nil, &Seg{})
	same(t, "Merge's fault, of zero values", fault, api.OK)
	has(t, "Merge of zero values", s, nil)
}

func TestMergeOfOne(t *testing.T) {
	all := risingRows(rising())
	for n := range len(all) + 1 {
		mergesTo(t, all[:n], all[:n])
		mergesTo(t, all[:n], nil, all[:n])
		mergesTo(t, all[:n], all[:n], nil)
		mergesTo(t, all[:n], nil, nil, all[:n], nil, []api.Row{})
	}
	mergesTo(t, singles(greatest)[0], singles(greatest)...)
	mergesTo(t, singles(least)[0], singles(least)...)
}

func TestMergeByWords(t *testing.T) {
	a := []api.Row{rowOf(5, 2, "a"), {Key: keyOf(5, "b"), Cell: api.Cell{Count: 2, Sum: 2, Min: -1, Max: 3}}}
	b := []api.Row{rowOf(4, 9, "z"), rowOf(5, 1, "a")}
	want := []api.Row{rowOf(4, 9, "z"), {Key: keyOf(5, "a"), Cell: api.Cell{Count: 2, Sum: 3, Min: 1, Max: 2}}, {Key: keyOf(5, "b"), Cell: api.Cell{Count: 2, Sum: 2, Min: -1, Max: 3}}}
	mergesTo(t, want, a, b)
	mergesTo(t, want, b, a)
	mergesTo(t, want, a, nil, b)
}

func TestMergeOfTheSameKeys(t *testing.T) {
	all := risingRows(rising())
	other := slices.Clone(all)
	want := slices.Clone(all)
	for i := range other {
		n := int64(i)
		other[i].Cell = api.Cell{Count: 5, Sum: -n, Min: -3, Max: n}
		want[i].Cell = api.Cell{Count: n + 7, Min: min(-n, -3), Max: max(3, n)}
	}
	mergesTo(t, want, all, other)
	mergesTo(t, want, other, all)
}

func TestMergeOfNoKeyTogether(t *testing.T) {
	all := risingRows(rising())
	for n := range len(all) + 1 { // all of one behind all of the other
		mergesTo(t, all, all[:n], all[n:])
		mergesTo(t, all, all[n:], all[:n])
	}
	for parts := 2; parts < 6; parts++ { // each one between others
		lists := make([][]api.Row, parts)
		for i, r := range all {
			lists[i%parts] = append(lists[i%parts], r)
		}
		mergesTo(t, all, lists...)
		slices.Reverse(lists)
		mergesTo(t, all, lists...)
	}
}

func TestMergeOfSomeKeysTogether(t *testing.T) {
	all := risingRows(rising())
	for n := range len(all) {
		for m := range n {
			merges(t, all[:n], all[m:])
			merges(t, all[m:], all[:n])
			merges(t, all, all[m:n])
			merges(t, all[m:n], all)
		}
	}
}

func TestMergeOfEachTwoChoices(t *testing.T) {
	all := risingRows(rising()[4:9])
	for a := range 1 << len(all) {
		for b := range 1 << len(all) {
			merges(t, chosen(all, a), chosen(all, b))
		}
	}
}

// chosen: those of rows whose bits are set.
func chosen(rows []api.Row, bits int) []api.Row {
	l := []api.Row{}
	for i, r := range rows {
		if bits>>i&1 == 1 {
			l = append(l, r)
		}
	}
	return l
}

func TestMergeOfEachThreeAndFourChoices(t *testing.T) {
	all := risingRows(rising()[5:8])
	for bits := range 1 << 12 {
		a, b, c, d := bits&7, bits>>3&7, bits>>6&7, bits>>9
		merges(t, chosen(all, a), chosen(all, b), chosen(all, c), chosen(all, d))
		if d == 0 {
			merges(t, chosen(all, a), chosen(all, b), chosen(all, c))
		}
	}
}

func TestMergeOfMany(t *testing.T) {
	throw := stir(7)
	for n := range 40 {
		lists := make([][]api.Row, n)
		for i := range lists {
			switch throw(5) {
			case 0: // a nil one
			default:
				rows, _ := rowsOf(some(throw(30), uint64(n*100+i)))
				lists[i] = rows
			}
		}
		merges(t, lists...)
	}
}

func TestMergeOfVeryMany(t *testing.T) { // as many hours as a great partition has, each of some rows
	const many, each = 2000, 50
	l := make([]*Seg, many)
	var want []api.Row
	for i := range l {
		var rows []api.Row
		for j := range each {
			rows = append(rows, rowOf(int64(i/2), 1, string(rune('A'+j))))
		}
		l[i], _ = Rows(rows)
		if i%2 == 0 {
			continue
		}
		for _, r := range rows {
			r.Cell = api.Cell{Count: 2, Sum: 2, Min: 1, Max: 1}
			want = append(want, r)
		}
	}
	slices.Reverse(l)
	s, fault := Merge(l...)
	same(t, "Merge's fault", fault, api.OK)
	has(t, "Merge", s, want)
}

func TestMergeWithItself(t *testing.T) {
	all := risingRows(rising())
	s, _ := Rows(all)
	for n := 2; n < 9; n++ {
		want := slices.Clone(all)
		for i := range want {
			want[i].Cell.Count *= int64(n)
			want[i].Cell.Sum *= int64(n)
		}
		m, fault := Merge(slices.Repeat([]*Seg{s}, n)...)
		same(t, "Merge's fault", fault, api.OK)
		has(t, "Merge with itself", m, want)
		has(t, "what was merged", s, all)
	}
}

func TestMergeInTheOrderOfTheSegments(t *testing.T) {
	for _, values := range lists([]int64{greatest, 1, 0, -1, least}, 6) {
		merges(t, singles(values...)...)
	}
	mergesTo(t, []api.Row{{Key: keyOf(5, "a"), Cell: api.Cell{Count: 3, Sum: greatest, Min: -1, Max: greatest}}}, singles(greatest, -1, 1)...)
	mergeOverflows(t, singles(greatest, 1, -1)...)
	mergesTo(t, []api.Row{{Key: keyOf(5, "a"), Cell: api.Cell{Count: 3, Sum: least, Min: least, Max: 1}}}, singles(least, 1, -1)...)
	mergeOverflows(t, singles(least, -1, 1)...)
}

func TestMergeFromTheFirstOn(t *testing.T) { // where it would come otherwise by halves
	mergesTo(t, []api.Row{{Key: keyOf(5, "a"), Cell: api.Cell{Count: 4, Sum: greatest - 4, Min: -9, Max: greatest}}}, singles(-9, 0, greatest, 5)...)
	mergeOverflows(t, singles(greatest, 0, 1, -1)...)
	mergesTo(t, []api.Row{{Key: keyOf(5, "a"), Cell: api.Cell{Count: 4, Sum: least + 4, Min: least, Max: 9}}}, singles(9, 0, least, -5)...)
	mergeOverflows(t, singles(least, 0, -1, 1)...)
	mergesTo(t, []api.Row{{Key: keyOf(5, "a"), Cell: api.Cell{Count: 3, Sum: greatest - 4, Min: -9, Max: greatest}}}, singles(-9, greatest, 5)...)
	mergeOverflows(t, singles(5, greatest, -9)...)
	for n := 2; n < 20; n++ { // one that leads down ahead of all, or behind all
		up := make([]int64, n)
		up[n-2], up[n-1] = greatest, 1
		mergeOverflows(t, singles(append(slices.Clone(up), -1)...)...)
		mergesTo(t, []api.Row{{Key: keyOf(5, "a"), Cell: api.Cell{Count: int64(n) + 1, Sum: greatest, Min: -1, Max: greatest}}}, singles(append([]int64{-1}, up...)...)...)
	}
}

func TestMergeOfCountsBeyond(t *testing.T) {
	counts := func(l ...int64) [][]api.Row {
		var lists [][]api.Row
		for _, n := range l {
			lists = append(lists, []api.Row{{Key: keyOf(5), Cell: api.Cell{Count: n, Sum: 0, Min: -1, Max: 1}}})
		}
		return lists
	}
	mergesTo(t, []api.Row{{Key: keyOf(5), Cell: api.Cell{Count: greatest, Min: -1, Max: 1}}}, counts(greatest-2, 2)...)
	mergeOverflows(t, counts(greatest-1, 2)...)
	mergeOverflows(t, counts(2, greatest)...)
	mergeOverflows(t, counts(1<<62, 2, 1<<62-1)...)
}

func TestMergeWhereOneKeyOfSeveralOverflows(t *testing.T) {
	all := risingRows(rising())
	for wrong := range all {
		a, b := slices.Clone(all), slices.Clone(all)
		a[wrong].Cell, b[wrong].Cell = one(greatest), one(1)
		mergeOverflows(t, a, b)
		mergeOverflows(t, a, nil, b)
		b[wrong].Cell = one(0)
		merges(t, a, b)
		mergeOverflows(t, a, b, all[wrong:], singles(1)[0], a)
	}
}

func TestMergeOfGreatCellsOfSeveralKeys(t *testing.T) { // no cell is merged with another key's
	var lists [][]api.Row
	var want []api.Row
	for _, k := range rising() {
		r := api.Row{Key: k, Cell: one(greatest)}
		lists, want = append(lists, []api.Row{r}), append(want, r)
	}
	mergesTo(t, want, lists...)
	slices.Reverse(lists)
	mergesTo(t, want, lists...)
}

func TestMergeIsASegmentOfItsOwn(t *testing.T) {
	l := segs(t, risingRows(rising()[3:9]), risingRows(rising()[6:12]))
	m, _ := Merge(l...)
	want, _ := putAll(slices.Concat(risingRows(rising()[3:9]), risingRows(rising()[6:12])))
	Merge(m, l[0], m)
	Merge(l[1], m)
	has(t, "Merge, when it is merged on", m, want)
	l[0], l[1] = nil, m
	has(t, "Merge, when the list is changed behind it", m, want)
	alone, _ := Merge(m)
	Merge(alone, m)
	has(t, "Merge of one", alone, want)
	has(t, "the one", m, want)
}

// --- P1103

// isWhole: these segments together are s.
func isWhole(t *testing.T, s *Seg, parts ...*Seg) {
	t.Helper()
	m, fault := Merge(parts...)
	same(t, "Merge's fault", fault, api.OK)
	alike(t, "the parts together, and all at once", m, s, true)
	same(t, "Len", m.Len(), s.Len())
	same(t, "Total", total(m), total(s))
}

// ofEach: a segment of each of these lists.
func ofEach(t *testing.T, lists ...[]api.Fact) []*Seg {
	t.Helper()
	var l []*Seg
	for _, facts := range lists {
		s, fault := Of(facts)
		same(t, "Of's fault", fault, api.OK)
		l = append(l, s)
	}
	return l
}

func TestLawOfWhateverParts(t *testing.T) { // each fact in any of three parts
	facts := []api.Fact{factOf(5, 3, "a"), factOf(4, -7, "b"), factOf(5, 9, "a"), factOf(5, 9, "", "a"), factOf(4, 2, "b"), factOf(5, -3, "a"), factOf(6, 0)}
	rows, _ := rowsOf(facts)
	s := isRows(t, rows)
	choices := 1
	for range facts {
		choices *= 3
	}
	for choice := range choices {
		lists := make([][]api.Fact, 3)
		for i, rest := 0, choice; i < len(facts); i, rest = i+1, rest/3 {
			lists[rest%3] = append(lists[rest%3], facts[i])
		}
		isWhole(t, s, ofEach(t, lists...)...)
	}
}

func TestLawOfCuts(t *testing.T) { // at each choice of places
	facts := some(9, 3)
	s := ofEach(t, facts)[0]
	for cuts := range 1 << (len(facts) - 1) {
		var lists [][]api.Fact
		first := 0
		for i := 1; i <= len(facts); i++ {
			if i == len(facts) || cuts>>(i-1)&1 == 1 {
				lists = append(lists, facts[first:i])
				first = i
			}
		}
		isWhole(t, s, ofEach(t, lists...)...)
	}
}

func TestLawOfOrdersOfParts(t *testing.T) {
	facts := some(60, 4)
	s := ofEach(t, facts)[0]
	for _, l := range orders(ofEach(t, facts[:10], facts[10:11], facts[11:40], facts[40:59], facts[59:])) {
		isWhole(t, s, l...)
		early, _ := Merge(l[0], l[1])
		late, _ := Merge(l[3], nil, l[4])
		isWhole(t, s, early, l[2], late)
		later, _ := Merge(l[2], late)
		isWhole(t, s, early, later)
		isWhole(t, s, later, early)
	}
}

func TestLawOfFactsOneByOne(t *testing.T) {
	facts := some(400, 5)
	s := ofEach(t, facts)[0]
	each := make([][]api.Fact, len(facts))
	for i := range facts {
		each[i] = facts[i : i+1]
	}
	l := ofEach(t, each...)
	isWhole(t, s, l...)
	slices.Reverse(l)
	isWhole(t, s, l...)
	whole := &Seg{}
	for _, one := range l {
		whole, _ = Merge(whole, one)
	}
	isWhole(t, s, whole)
}

func TestLawOfPartsOfASegment(t *testing.T) {
	s := ofEach(t, some(200, 6))[0]
	for _, cut := range hours() {
		isWhole(t, s, s.Part(least, cut), s.Part(cut, greatest))
		isWhole(t, s, s.Part(cut, greatest), s.Part(least, cut))
		for _, other := range hours() {
			if cut <= other {
				isWhole(t, s, s.Part(other, greatest), s.Part(cut, other), s.Part(least, cut))
			}
		}
	}
}

func TestLawOfRowsOfASegment(t *testing.T) {
	for seed := range uint64(20) {
		s := ofEach(t, some(80, seed))[0]
		again, fault := Rows(collect(s, least, greatest))
		same(t, "Rows' fault", fault, api.OK)
		alike(t, "a segment of its rows", s, again, true)
	}
}

func TestLawOfSegmentsMadeAgain(t *testing.T) { // it hangs on no order in which a map is gone through
	facts := some(200, 9)
	s := ofEach(t, facts)[0]
	for range 50 {
		isWhole(t, s, ofEach(t, facts)...)
	}
}
