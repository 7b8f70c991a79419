package catalog

import (
	"cmp"
	"iter"
	"math"
	"slices"
	"strconv"
	"testing"
	"time"

	"ossuary/api"
)

const (
	least    = math.MinInt64
	greatest = math.MaxInt64
	mostNum  = 4611686018427387904 // 2^62

	lastHour  = 16777216 // MaxHour: December 8 of 3883, 16 o'clock
	lastDay   = 699050   // from hour 16777200 on, below hour 16777224
	lastMonth = 22967    // from hour 16777032 on, below hour 16777776
)

// same fails the test where got is not what the chapter says.
func same[T comparable](t *testing.T, what string, got, want T) {
	t.Helper()
	if got != want {
		t.Errorf("%s: %v, not %v", what, got, want)
	}
}

// tells fails the test where a list is not what the chapter says.
func tells[T comparable](t *testing.T, what string, got []T, want ...T) {
	t.Helper()
	if !slices.Equal(got, want) {
		t.Errorf("%s: %v, not %v", what, got, want)
	}
}

func hourPart(i int64) api.Part  { return api.Part{Tier: 1, Index: i} }
func dayPart(i int64) api.Part   { return api.Part{Tier: 2, Index: i} }
func monthPart(i int64) api.Part { return api.Part{Tier: 3, Index: i} }

func name(p api.Part) string {
	return "tier " + strconv.Itoa(p.Tier) + ", " + strconv.FormatInt(p.Index, 10)
}

func hourName(hour int64) string {
	return "hour " + strconv.FormatInt(hour, 10)
}

// one: an entry of p, whose numbers are no other partition's here.
func one(p api.Part) api.Entry {
	return api.Entry{Part: p, Seg: 4*p.Index + int64(p.Tier), Mark: p.Index + 100, Rows: 40 + int64(p.Tier)}
}

// ones: entries of these partitions.
func ones(parts ...api.Part) []api.Entry {
	var l []api.Entry
	for _, p := range parts {
		l = append(l, one(p))
	}
	return l
}

// other: an entry of p, but another one.
func other(p api.Part) api.Entry {
	e := one(p)
	e.Seg, e.Mark, e.Rows = e.Seg+7, e.Mark+7, e.Rows+7
	return e
}

// cold: an entry of a month, in the store of objects.
func cold(month int64) api.Entry {
	e := one(monthPart(month))
	e.Cold = true
	return e
}

// some: partitions of each tier, of which no two meet, by their hours; hours 25 to 26, 48 to 72 and others stand empty between them.
func some() []api.Part {
	return []api.Part{hourPart(0), hourPart(5), hourPart(6), dayPart(1), hourPart(72), dayPart(30), monthPart(1), dayPart(59), hourPart(1440), monthPart(25), hourPart(lastHour - 17), dayPart(lastDay)}
}

// of: a catalog of these entries, put one behind the other by one edit.
func of(t *testing.T, entries ...api.Entry) *Catalog {
	t.Helper()
	c := New()
	applies(t, "Apply ahead", c, Edit{Put: entries}, api.OK)
	return c
}

func applies(t *testing.T, what string, c *Catalog, e Edit, want api.Fault) {
	t.Helper()
	same(t, what+": its fault", c.Apply(e), want)
}

// found: what Get and At answer, to be compared at once.
type found struct {
	e  api.Entry
	is bool
}

func getOf(c *Catalog, p api.Part) found {
	e, is := c.Get(p)
	return found{e, is}
}

func atOf(c *Catalog, hour int64) found {
	e, is := c.At(hour)
	return found{e, is}
}

// told: the entries that a range tells, as far as most (below 0: all).
func told(seq iter.Seq[api.Entry], most int) []api.Entry {
	var l []api.Entry
	if most == 0 {
		return l
	}
	for e := range seq {
		l = append(l, e)
		if len(l) == most {
			break
		}
	}
	return l
}

// segsOf: the Segs of entries, rising.
func segsOf(entries []api.Entry) []int64 {
	var l []int64
	for _, e := range entries {
		l = append(l, e.Seg)
	}
	slices.Sort(l)
	return l
}

// holds fails the test where c has anything but these entries, told by their hours rising.
func holds(t *testing.T, what string, c *Catalog, want ...api.Entry) {
	t.Helper()
	tells(t, what+": All", told(c.All(), -1), want...)
	tells(t, what+": Over all", c.Over(least, greatest), want...)
	tells(t, what+": Segs", c.Segs(), segsOf(want)...)
	same(t, what+": Len", c.Len(), len(want))
	for _, e := range want {
		from, to := spanAs(e.Part)
		same(t, what+": Get of "+name(e.Part), getOf(c, e.Part), found{e, true})
		same(t, what+": At of its first hour", atOf(c, from), found{e, true})
		same(t, what+": At of its last hour", atOf(c, to-1), found{e, true})
		tells(t, what+": Over its span", c.Over(from, to), e)
	}
}

// --- The chapter's words, reckoned another way: entries in a list, each asked by itself, by the library's calendar.

func rightPartAs(p api.Part) bool {
	return p.Tier >= 1 && p.Tier <= 3 && p.Index >= 0 && p.Index <= [4]int64{1: lastHour, 2: lastDay, 3: lastMonth}[p.Tier]
}

// spanAs: a partition's span, by the words of part's chapter.
func spanAs(p api.Part) (int64, int64) {
	first := func(month int64) int64 {
		return time.Date(1970, time.Month(1+month), 1, 0, 0, 0, 0, time.UTC).Unix() / 3600
	}
	switch {
	case !rightPartAs(p):
		return 0, 0
	case p.Tier == 1:
		return p.Index, p.Index + 1
	case p.Tier == 2:
		return p.Index * 24, p.Index*24 + 24
	}
	return first(p.Index), first(p.Index + 1)
}

func meetsAs(a, b api.Part) bool {
	first, end := spanAs(a)
	from, to := spanAs(b)
	return max(first, from) < min(end, to)
}

func rightAs(e api.Entry) bool {
	in := func(n int64) bool { return 0 < n && n <= mostNum }
	return rightPartAs(e.Part) && in(e.Seg) && in(e.Rows) && (e.Mark == 0 || in(e.Mark)) && (e.Part.Tier == 3 || !e.Cold)
}

// model: what a catalog has, in no order.
type model []api.Entry

// apply: what it has behind an edit, and the edit's fault.
func (m model) apply(edit Edit) (model, api.Fault) {
	next := slices.Clone(m)
	for _, p := range edit.Drop {
		i := slices.IndexFunc(next, func(e api.Entry) bool { return e.Part == p })
		if i < 0 {
			return m, api.Unknown
		}
		next = slices.Delete(next, i, i+1)
	}
	for _, put := range edit.Put {
		if !rightAs(put) {
			return m, api.Malformed
		}
		if slices.ContainsFunc(next, func(e api.Entry) bool { return meetsAs(e.Part, put.Part) }) {
			return m, api.Twice
		}
		next = append(next, put)
	}
	return next, api.OK
}

func (m model) at(hour int64) found {
	for _, e := range m {
		if from, to := spanAs(e.Part); hour >= from && hour < to {
			return found{e, true}
		}
	}
	return found{}
}

func (m model) get(p api.Part) found {
	for _, e := range m {
		if e.Part == p {
			return found{e, true}
		}
	}
	return found{}
}

func (m model) over(from, to int64) []api.Entry {
	l := slices.DeleteFunc(slices.Clone(m), func(e api.Entry) bool {
		first, end := spanAs(e.Part)
		return max(first, from) >= min(end, to)
	})
	slices.SortFunc(l, func(a, b api.Entry) int {
		first, _ := spanAs(a.Part)
		second, _ := spanAs(b.Part)
		return cmp.Compare(first, second)
	})
	return l
}

func (m model) all() []api.Entry {
	return m.over(least, greatest)
}

// --- Wrong and edgy things

// wrongParts: partitions that are not right.
func wrongParts() []api.Part {
	l := []api.Part{{}, {Index: 5}, {Tier: 4}, {Tier: 4, Index: 5}, {Tier: -1}, {Tier: -1, Index: 1}, {Tier: 1<<32 + 1}, {Tier: math.MinInt}, {Tier: math.MaxInt}, {Tier: math.MinInt + 1, Index: 5}}
	for tier, last := range [4]int64{1: lastHour, 2: lastDay, 3: lastMonth} {
		for _, i := range []int64{-1, -2, last + 1, last + 2, least, least + 1, greatest - 1, greatest, 1 << 32, 1<<32 + 5, -1 << 32} {
			if tier > 0 {
				l = append(l, api.Part{Tier: tier, Index: i})
			}
		}
	}
	return l
}

// wrongEntries: entries that are not right, each in one thing, of a partition that is.
func wrongEntries(p api.Part) []api.Entry {
	var l []api.Entry
	wrong := func(set func(e *api.Entry)) {
		e := one(p)
		set(&e)
		l = append(l, e)
	}
	for _, n := range []int64{-1, -2, least, least + 1, -mostNum, mostNum + 1, mostNum + 2, greatest - 1, greatest} {
		wrong(func(e *api.Entry) { e.Seg = n })
		wrong(func(e *api.Entry) { e.Mark = n })
		wrong(func(e *api.Entry) { e.Rows = n })
	}
	wrong(func(e *api.Entry) { e.Seg = 0 })
	wrong(func(e *api.Entry) { e.Rows = 0 })
	wrong(func(e *api.Entry) { *e = api.Entry{Part: p} })
	if p.Tier != 3 {
		wrong(func(e *api.Entry) { e.Cold = true })
	}
	return l
}

// --- P2001: Right

func TestRightAtTheEndsOfEachNumber(t *testing.T) {
	numbers := []int64{least, least + 1, -mostNum - 1, -mostNum, -1 << 32, -2, -1, 0, 1, 2, 1 << 31, 1 << 32, mostNum - 1, mostNum, mostNum + 1, mostNum + 2, greatest - 1, greatest}
	for _, p := range []api.Part{hourPart(0), hourPart(lastHour), dayPart(0), dayPart(lastDay), monthPart(0), monthPart(lastMonth)} {
		for _, n := range numbers {
			for _, c := range []struct {
				field string
				e     api.Entry
				want  bool
			}{
				{"Seg", api.Entry{Part: p, Seg: n, Mark: 3, Rows: 5}, n >= 1 && n <= 4611686018427387904},
				{"Mark", api.Entry{Part: p, Seg: 3, Mark: n, Rows: 5}, n >= 0 && n <= 4611686018427387904},
				{"Rows", api.Entry{Part: p, Seg: 3, Mark: 5, Rows: n}, n >= 1 && n <= 4611686018427387904},
			} {
				same(t, name(p)+", "+c.field+" "+strconv.FormatInt(n, 10), Right(c.e), c.want)
			}
		}
	}
}

func TestRightOfEachThreeNumbers(t *testing.T) {
	edges := []int64{least, -1, 0, 1, mostNum, mostNum + 1, greatest}
	for _, p := range []api.Part{hourPart(5), monthPart(5), dayPart(-1)} {
		for _, seg := range edges {
			for _, mark := range edges {
				for _, rows := range edges {
					for _, isCold := range []bool{false, true} {
						e := api.Entry{Part: p, Seg: seg, Mark: mark, Rows: rows, Cold: isCold}
						if got := Right(e); got != rightAs(e) {
							t.Errorf("%v: %v", e, got)
						}
					}
				}
			}
		}
	}
}

func TestRightOfColdEntriesOfEachTier(t *testing.T) {
	for tier, last := range [4]int64{1: lastHour, 2: lastDay, 3: lastMonth} {
		if tier == 0 {
			continue
		}
		for _, i := range []int64{0, 1, 2, 3, last - 1, last} {
			e := one(api.Part{Tier: tier, Index: i})
			same(t, name(e.Part), Right(e), true)
			e.Cold = true
			same(t, name(e.Part)+", Cold", Right(e), tier == 3)
		}
	}
}

func TestRightOfPartitionsThatAreNotRight(t *testing.T) {
	same(t, "the zero entry", Right(api.Entry{}), false)
	for _, p := range wrongParts() {
		for _, isCold := range []bool{false, true} {
			same(t, name(p), Right(api.Entry{Part: p, Seg: 1, Mark: 0, Rows: 1, Cold: isCold}), false)
			same(t, name(p), Right(api.Entry{Part: p, Seg: 9, Mark: 9, Rows: 9, Cold: isCold}), false)
		}
	}
}

func TestRightOfEntriesWrongInOneThing(t *testing.T) {
	for _, p := range some() {
		same(t, name(p), Right(one(p)), true)
		for _, e := range wrongEntries(p) {
			same(t, name(p)+", with something wrong", Right(e), false)
		}
	}
}
