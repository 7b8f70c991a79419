package ask

import (
	"math"
	"strconv"
	"strings"
	"testing"

	"ossuary/api"
)

const (
	least    = math.MinInt64
	greatest = math.MaxInt64
)

// same fails the test where got is not what the chapter says.
func same[T comparable](t *testing.T, what string, got, want T) {
	t.Helper()
	if got != want {
		t.Errorf("%s: %v, not %v", what, got, want)
	}
}

// part: what a query has in one dimension.
type part struct {
	group, has bool
	filter     string
}

func (p part) put(q *api.Query, dim int) {
	q.Group[dim], q.Has[dim], q.Filter[dim] = p.group, p.has, p.filter
}

// queryOf: a query with parts in its first dimensions.
func queryOf(from, to int64, parts ...part) api.Query {
	q := api.Query{From: from, To: to}
	for i, p := range parts {
		p.put(&q, i)
	}
	return q
}

func keyOf(hour int64, texts ...string) api.Key {
	k := api.Key{Hour: hour}
	copy(k.Dims[:], texts)
	return k
}

// wrongDims: numbers of dimensions that no query has.
func wrongDims() []int {
	return []int{0, api.Dims + 1, api.Dims + 2, -1, -2, -api.Dims, math.MinInt, math.MinInt + 1, math.MaxInt, 1 << 32, 1<<32 + 1, 257}
}

// edges: numbers at the ends of what is right for an hour, and those beside them, and at the ends of all numbers.
func edges() []int64 {
	return []int64{
		least, least + 1, -1 << 62, -1 << 32, -1<<24 - 1, -1 << 24, -2, -1, 0, 1, 2, 3, 127, 128,
		1<<24 - 1, 1 << 24, 1<<24 + 1, 1<<24 + 2, 1 << 25, 1 << 32, 1<<32 + 1, 1<<62 - 1, 1 << 62, 1<<62 + 1, greatest - 1, greatest,
	}
}

// texts: of each length at which something changes, and of bytes that are no letters.
func texts() []string {
	l := []string{"\x00", "\xff", "\xff\x00", "€", "€€€€€", "€€€€€€", "a\xc3", strings.Repeat("\x80", 16), strings.Repeat("\x80", 17)}
	for _, n := range []int{0, 1, 2, 15, 16, 17, 18, 127, 128, 255, 256, 257, 272, 1 << 16, 1<<16 + 1} {
		l = append(l, strings.Repeat("x", n))
	}
	return l
}

// parts: what a query may have in a dimension, right or not, with any of some texts.
func parts(texts ...string) []part {
	var l []part
	for _, s := range texts {
		l = append(l, part{false, false, s}, part{false, true, s}, part{true, false, s}, part{true, true, s})
	}
	return l
}

// each hands out all queries of some hours that have any of those parts in each dimension.
func each(from, to int64, l []part, use func(q api.Query)) {
	q := queryOf(from, to)
	for _, a := range l {
		a.put(&q, 0)
		for _, b := range l {
			b.put(&q, 1)
			for _, c := range l {
				c.put(&q, 2)
				for _, d := range l {
					d.put(&q, 3)
					use(q)
				}
			}
		}
	}
}

// --- P1301 Check

// checkAs: what Check answers, by the chapter's words, one thing after the other.
func checkAs(q api.Query, dims int) api.Fault {
	if dims != 1 && dims != 2 && dims != 3 && dims != 4 {
		return api.BadArg
	}
	if q.From < 0 || q.To > 16777217 || q.From > q.To {
		return api.Range
	}
	for i := range 4 {
		if i+1 > dims {
			if q.Group[i] || q.Has[i] || len(q.Filter[i]) > 0 {
				return api.Malformed
			}
		} else if len(q.Filter[i]) > 16 || len(q.Filter[i]) > 0 && !q.Has[i] {
			return api.Malformed
		}
	}
	return api.OK
}

func TestCheckOfDims(t *testing.T) {
	for dims := 1; dims <= 4; dims++ {
		same(t, "for "+strconv.Itoa(dims), Check(queryOf(3, 5, part{true, true, "a"}), dims), api.OK)
		same(t, "nothing, for "+strconv.Itoa(dims), Check(api.Query{}, dims), api.OK)
	}
	for _, dims := range wrongDims() {
		what := "for " + strconv.Itoa(dims)
		same(t, what, Check(queryOf(3, 5, part{true, true, "a"}), dims), api.BadArg)
		same(t, "nothing, "+what, Check(api.Query{}, dims), api.BadArg)
		same(t, "hours that are wrong, "+what, Check(queryOf(5, 3), dims), api.BadArg)
		same(t, "a filter that is wrong, "+what, Check(queryOf(3, 5, part{false, false, "a"}), dims), api.BadArg)
		same(t, "all wrong, "+what, Check(queryOf(-1, greatest, part{}, part{}, part{}, part{true, true, strings.Repeat("x", 17)}), dims), api.BadArg)
	}
}

func TestCheckOfHours(t *testing.T) {
	for _, c := range []struct {
		from, to int64
		want     api.Fault
	}{
		{-1, 5, api.Range}, {0, 5, api.OK}, {0, 0, api.OK}, {-1, -1, api.Range}, {0, -1, api.Range}, {-1, 0, api.Range},
		{5, 5, api.OK}, {5, 4, api.Range}, {5, 6, api.OK}, {1, 0, api.Range}, {6, 5, api.Range},
		{0, api.MaxHour - 1, api.OK}, {0, api.MaxHour, api.OK}, {0, api.MaxHour + 1, api.OK}, {0, api.MaxHour + 2, api.Range},
		{api.MaxHour, api.MaxHour, api.OK}, {api.MaxHour, api.MaxHour + 1, api.OK}, {api.MaxHour + 1, api.MaxHour, api.Range},
		{api.MaxHour + 1, api.MaxHour + 1, api.OK}, {api.MaxHour + 1, api.MaxHour + 2, api.Range}, {api.MaxHour + 2, api.MaxHour + 1, api.Range},
		{api.MaxHour + 2, api.MaxHour + 2, api.Range}, {api.MaxHour, api.MaxHour + 2, api.Range}, {api.MaxHour, 0, api.Range},
		{least, greatest, api.Range}, {greatest, least, api.Range}, {least, least, api.Range}, {greatest, greatest, api.Range},
		{least, 5, api.Range}, {5, least, api.Range}, {greatest, 5, api.Range}, {5, greatest, api.Range},
		{0, greatest, api.Range}, {least, 0, api.Range}, {0, least, api.Range}, {greatest, 0, api.Range},
	} {
		for dims := 1; dims <= 4; dims++ {
			same(t, strconv.FormatInt(c.from, 10)+" to "+strconv.FormatInt(c.to, 10), Check(queryOf(c.from, c.to), dims), c.want)
		}
	}
}

func TestCheckOfAllPairsOfHours(t *testing.T) {
	for _, from := range edges() {
		for _, to := range edges() {
			for dims := 0; dims <= 5; dims++ {
				q := queryOf(from, to, part{true, false, ""})
				same(t, strconv.FormatInt(from, 10)+" to "+strconv.FormatInt(to, 10), Check(q, dims), checkAs(q, dims))
			}
		}
	}
}

// Each thing that may be wrong in one dimension, all else being right.
func TestCheckOfEachDimension(t *testing.T) {
	full, long := strings.Repeat("m", 16), strings.Repeat("m", 17)
	for _, c := range []struct {
		part          part
		among, beyond api.Fault
	}{
		{part{}, api.OK, api.OK},
		{part{true, false, ""}, api.OK, api.Malformed},
		{part{false, true, ""}, api.OK, api.Malformed},
		{part{true, true, ""}, api.OK, api.Malformed},
		{part{false, true, "m"}, api.OK, api.Malformed},
		{part{true, true, "m"}, api.OK, api.Malformed},
		{part{false, false, "m"}, api.Malformed, api.Malformed},
		{part{true, false, "m"}, api.Malformed, api.Malformed},
		{part{false, true, full}, api.OK, api.Malformed},
		{part{true, true, full}, api.OK, api.Malformed},
		{part{false, false, full}, api.Malformed, api.Malformed},
		{part{true, false, full}, api.Malformed, api.Malformed},
		{part{false, true, long}, api.Malformed, api.Malformed},
		{part{true, true, long}, api.Malformed, api.Malformed},
		{part{false, false, long}, api.Malformed, api.Malformed},
		{part{true, false, long}, api.Malformed, api.Malformed},
	} {
		for dims := 1; dims <= 4; dims++ {
			for i := range 4 {
				q := queryOf(3, 5)
				c.part.put(&q, i)
				want := c.among
				if i >= dims {
					want = c.beyond
				}
				same(t, strconv.Itoa(i)+" of "+strconv.Itoa(dims), Check(q, dims), want)
			}
		}
	}
}

func TestCheckOfFilters(t *testing.T) {
	for _, s := range texts() {
		for _, p := range parts(s) {
			for dims := 1; dims <= 4; dims++ {
				for i := range 4 {
					q := queryOf(0, api.MaxHour+1)
					p.put(&q, i)
					same(t, strconv.Itoa(len(s))+" bytes", Check(q, dims), checkAs(q, dims))
				}
			}
		}
	}
}

func TestCheckOfAllDimensionsAtOnce(t *testing.T) {
	seen := map[api.Fault]int{}
	each(3, 5, parts("", "a", strings.Repeat("z", 17)), func(q api.Query) {
		for dims := 1; dims <= 4; dims++ {
			got := Check(q, dims)
			same(t, "Check", got, checkAs(q, dims))
			seen[got]++
		}
	})
	if seen[api.OK] == 0 || seen[api.Malformed] == 0 || len(seen) != 2 {
		t.Errorf("seen: %v", seen)
	}
}

func TestCheckTellsRangeAheadOfMalformed(t *testing.T) {
	for _, hours := range [][2]int64{{-1, 5}, {5, 4}, {0, api.MaxHour + 2}, {least, greatest}} {
		for dims := 1; dims <= 4; dims++ {
			for i := range 4 {
				for _, p := range parts("", "a", strings.Repeat("z", 17)) {
					q := queryOf(hours[0], hours[1])
					p.put(&q, i)
					same(t, "two things wrong", Check(q, dims), api.Range)
				}
			}
		}
	}
}

// --- P1301 Matches

// matchesAs: what Matches answers, by the chapter's words.
func matchesAs(q api.Query, k api.Key) bool {
	if k.Hour < q.From || k.Hour >= q.To {
		return false
	}
	for i := range 4 {
		if q.Has[i] && k.Dims[i] != q.Filter[i] {
			return false
		}
	}
	return true
}

func TestMatchesOfHours(t *testing.T) {
	for _, c := range []struct {
		from, to, hour int64
		want           bool
	}{
		{3, 5, 2, false}, {3, 5, 3, true}, {3, 5, 4, true}, {3, 5, 5, false}, {3, 5, 6, false}, {3, 5, -3, false},
		{3, 4, 2, false}, {3, 4, 3, true}, {3, 4, 4, false},
		{3, 3, 2, false}, {3, 3, 3, false}, {3, 3, 4, false}, {0, 0, 0, false}, {0, 0, -1, false},
		{0, 1, 0, true}, {0, 1, -1, false}, {0, 1, 1, false},
		{0, api.MaxHour + 1, api.MaxHour, true}, {0, api.MaxHour, api.MaxHour, false}, {0, api.MaxHour + 1, api.MaxHour + 1, false},
		{api.MaxHour, api.MaxHour + 1, api.MaxHour, true}, {api.MaxHour + 1, api.MaxHour + 1, api.MaxHour, false},
		{5, 3, 3, false}, {5, 3, 4, false}, {5, 3, 5, false}, {greatest, least, 0, false},
		{least, greatest, least, true}, {least, greatest, greatest, false}, {least, greatest, greatest - 1, true}, {least, least, least, false},
		{greatest, greatest, greatest, false}, {0, 5, least, false}, {0, 5, greatest, false},
	} {
		what := strconv.FormatInt(c.hour, 10) + " of " + strconv.FormatInt(c.from, 10) + " to " + strconv.FormatInt(c.to, 10)
		same(t, what, Matches(queryOf(c.from, c.to), keyOf(c.hour, "a", "b")), c.want)
		same(t, what+", another text", Matches(queryOf(c.from, c.to, part{false, true, "z"}), keyOf(c.hour, "a")), false)
	}
}

func TestMatchesOfAllPairsOfHours(t *testing.T) {
	for _, from := range edges() {
		for _, to := range edges() {
			for _, hour := range edges() {
				q, k := queryOf(from, to), keyOf(hour, "a")
				same(t, strconv.FormatInt(hour, 10)+" of "+strconv.FormatInt(from, 10)+" to "+strconv.FormatInt(to, 10), Matches(q, k), matchesAs(q, k))
			}
		}
	}
}

func TestMatchesOfEachDimension(t *testing.T) {
	full := strings.Repeat("m", 16)
	for i := range 4 {
		for _, filter := range []string{"", "a", "ab", "A", "\xff\x00", "€", full} {
			for _, text := range []string{"", "a", "ab", "A", "aa", "b", "\xff", "\xff\x00", "\xfe\x00", "€", "€€", full, full[1:], full[1:] + "n", "n" + full[1:], full + "m"} {
				k := keyOf(4, "p", "q", "r", "s")
				k.Dims[i] = text
				for _, group := range []bool{false, true} {
					what := strconv.Quote(text) + " of " + strconv.Quote(filter) + " in " + strconv.Itoa(i)
					q := queryOf(3, 5)
					part{group, true, filter}.put(&q, i)
					same(t, what, Matches(q, k), text == filter)
					part{group, false, ""}.put(&q, i)
					same(t, what+" without Has", Matches(q, k), true)
				}
			}
		}
	}
}

// Also of queries that are not right: where Has is false, Filter tells nothing.
func TestMatchesOfAllDimensionsAtOnce(t *testing.T) {
	seen := map[bool]int{}
	each(3, 5, parts("", "a"), func(q api.Query) {
		for n := range 16 {
			k := keyOf(4)
			for i := range k.Dims {
				k.Dims[i] = []string{"", "a"}[n>>i&1]
			}
			got := Matches(q, k)
			same(t, "Matches", got, matchesAs(q, k))
			seen[got]++
			k.Hour = 5
			same(t, "Matches of an hour behind", Matches(q, k), false)
		}
	})
	if seen[true] == 0 || seen[false] == 0 {
		t.Errorf("seen: %v", seen)
	}
}

// A text that is right in one dimension is asked in that one alone.
func TestMatchesAsksEachDimensionForItself(t *testing.T) {
	texts := []string{"a", "b", "c", "d"}
	for i := range 4 {
		for j := range 4 {
			q := queryOf(0, 9)
			part{false, true, texts[i]}.put(&q, j)
			same(t, texts[i]+" in "+strconv.Itoa(j), Matches(q, keyOf(1, texts...)), i == j)
		}
	}
}

// --- P1301 Group

func TestGroup(t *testing.T) {
	k := keyOf(7, "a", "b", "c", "d")
	for _, c := range []struct {
		what  string
		group [api.Dims]bool
		want  api.Key
	}{
		{"none", [api.Dims]bool{}, api.Key{}},
		{"the first", [api.Dims]bool{true}, keyOf(0, "a")},
		{"the second", [api.Dims]bool{false, true}, keyOf(0, "", "b")},
		{"the third", [api.Dims]bool{false, false, true}, keyOf(0, "", "", "c")},
		{"the fourth", [api.Dims]bool{false, false, false, true}, keyOf(0, "", "", "", "d")},
		{"the first and the third", [api.Dims]bool{true, false, true, false}, keyOf(0, "a", "", "c", "")},
		{"all", [api.Dims]bool{true, true, true, true}, keyOf(0, "a", "b", "c", "d")},
	} {
		same(t, c.what, Group(api.Query{From: 3, To: 9, Group: c.group}, k), c.want)
		same(t, c.what+", of no query that is right", Group(api.Query{From: 9, To: -3, Group: c.group}, k), c.want)
	}
}

// Whatever else the query has, and whether the key matches or not.
func TestGroupOfAllDimensionsAtOnce(t *testing.T) {
	texts := []string{"a", "", "€\xff", strings.Repeat("x", 40)}
	each(3, 5, parts("", "a"), func(q api.Query) {
		for _, hour := range []int64{0, 4, -1, 5, least, greatest, api.MaxHour} {
			var want api.Key
			for i, text := range texts {
				if q.Group[i] {
					want.Dims[i] = text
				}
			}
			same(t, "Group", Group(q, keyOf(hour, texts...)), want)
		}
	})
}

// --- P1301 Cut

func TestCut(t *testing.T) {
	for _, c := range []struct{ from, to, cut, wantFrom, wantTo int64 }{
		{3, 9, 2, 3, 9}, {3, 9, 0, 3, 9}, {3, 9, -1, 3, 9}, {3, 9, least, 3, 9},
		{3, 9, 3, 3, 9}, {3, 9, 4, 4, 9}, {3, 9, 8, 8, 9}, {3, 9, 9, 9, 9},
		{3, 9, 10, 10, 10}, {3, 9, 12, 12, 12}, {3, 9, greatest, greatest, greatest},
		{3, 9, api.MaxHour + 1, api.MaxHour + 1, api.MaxHour + 1}, {3, 9, api.MaxHour + 2, api.MaxHour + 2, api.MaxHour + 2},
		{5, 5, 4, 5, 5}, {5, 5, 5, 5, 5}, {5, 5, 6, 6, 6},
		{0, 0, 0, 0, 0}, {0, 0, -1, 0, 0}, {0, 0, 1, 1, 1}, {0, 0, least, 0, 0}, {0, 0, greatest, greatest, greatest},
		{0, api.MaxHour + 1, api.MaxHour, api.MaxHour, api.MaxHour + 1}, {0, api.MaxHour + 1, least, 0, api.MaxHour + 1},
	} {
		same(t, "Cut", Cut(queryOf(c.from, c.to), c.cut), queryOf(c.wantFrom, c.wantTo))
	}
}

func TestCutOfAllHours(t *testing.T) {
	for _, from := range edges() {
		for _, to := range edges() {
			for _, cut := range edges() {
				q := queryOf(from, to, part{true, true, "a"}, part{false, true, ""})
				c := Cut(q, cut)
				want := q
				if cut > from {
					want.From = cut
				}
				if want.From > to {
					want.To = want.From
				}
				same(t, "Cut", c, want)
				same(t, "Cut once more", Cut(c, cut), c)
			}
		}
	}
}

// What a query has beside its hours stays, right or not.
func TestCutKeepsAllElse(t *testing.T) {
	each(3, 9, parts("", "a"), func(q api.Query) {
		for _, cut := range []int64{2, 5, 12} {
			c := Cut(q, cut)
			same(t, "From", c.From, max(3, cut))
			c.From, c.To = 3, 9
			same(t, "all else", c, q)
		}
	})
}

// --- P1301 what was handed in

func TestQueryAndKeyStayAsTheyAre(t *testing.T) {
	q, k := queryOf(3, 9, part{true, true, "a"}, part{false, true, ""}), keyOf(4, "a", "", "c")
	keptQ, keptK := q, k
	for dims := -1; dims <= 6; dims++ {
		Check(q, dims)
		Encode(q, dims)
	}
	Matches(q, k)
	g := Group(q, k)
	g.Hour, g.Dims = 9, [api.Dims]string{"z", "z", "z", "z"}
	c := Cut(q, 12)
	c.Group, c.Has, c.Filter = [api.Dims]bool{}, [api.Dims]bool{}, [api.Dims]string{"z"}
	same(t, "query", q, keptQ)
	same(t, "key", k, keptK)
	same(t, "Group again", Group(q, k), keyOf(0, "a"))
	same(t, "Cut again", Cut(q, 12), queryOf(12, 12, part{true, true, "a"}, part{false, true, ""}))
}

// --- P1303 what is cut

// What is cut matches nothing below, and all else as it did.
func TestWhatIsCutMatchesNothingBelow(t *testing.T) {
	for _, from := range edges() {
		for _, to := range edges() {
			if from > to {
				continue
			}
			for _, cut := range edges() {
				q := queryOf(from, to, part{true, true, "a"})
				c := Cut(q, cut)
				for _, hour := range append(edges(), cut-1, cut, cut+1) {
					for _, text := range []string{"a", "b"} {
						k := keyOf(hour, text)
						same(t, "what is cut", Matches(c, k), hour >= cut && Matches(q, k))
					}
				}
			}
		}
	}
}

// A query that is right stays so, as long as what it is cut at may be its From.
func TestWhatIsCutIsRight(t *testing.T) {
	for _, from := range edges() {
		for _, to := range edges() {
			q := queryOf(from, to)
			if Check(q, 2) != api.OK {
				continue
			}
			for _, cut := range edges() {
				want := api.OK
				if cut > api.MaxHour+1 {
					want = api.Range
				}
				same(t, "Check of what is cut", Check(Cut(q, cut), 2), want)
			}
		}
	}
}
