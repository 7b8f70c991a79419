package wal

import (
	"slices"
	"strconv"
	"testing"

	"ossuary/api"
)

// trims: what Trim answers, and that it changes nothing.
func trims(t *testing.T, what string, l []Batch, from, to, mark int64, want []Batch) {
	t.Helper()
	l, unchanged := roomy(t, l)
	left := Trim(l, from, to, mark)
	sameBatches(t, what+": Trim", left, want)
	unchanged(what)
	apart(t, what, left)
	unchanged(what + ", and its answer changed")
}

// finds: what Facts answers, and that it changes nothing.
func finds(t *testing.T, what string, l []Batch, from, to int64, want []api.Fact) {
	t.Helper()
	l, unchanged := roomy(t, l)
	facts := Facts(l, from, to)
	if !slices.Equal(facts, want) {
		t.Errorf("%s: %v, not %v", what, facts, want)
	}
	all := facts[:cap(facts)]
	for i := range all {
		all[i] = factOf(-77, 7, "changed")
	}
	unchanged(what)
}

// only: the batch with but those of its facts that stand at these places.
func only(b Batch, places ...int) Batch {
	var facts []api.Fact
	for _, at := range places {
		facts = append(facts, b.Facts[at])
	}
	b.Facts = facts
	return b
}

// --- P1703: Trim

func TestTrimUpToMark(t *testing.T) {
	a, b, c := batchOf(3, 4, 5, 6), batchOf(5, 6, 5, 4), batchOf(8, 5, 4)
	l := []Batch{a, b, c}
	for _, m := range []struct {
		mark int64
		want []Batch
	}{
		{least, l}, {-1, l}, {0, l}, {2, l},
		{3, []Batch{only(a, 0, 2), b, c}}, {4, []Batch{only(a, 0, 2), b, c}},
		{5, []Batch{only(a, 0, 2), only(b, 0, 2), c}}, {7, []Batch{only(a, 0, 2), only(b, 0, 2), c}},
		{8, []Batch{only(a, 0, 2), only(b, 0, 2), only(c, 1)}}, {9, []Batch{only(a, 0, 2), only(b, 0, 2), only(c, 1)}},
		{greatest, []Batch{only(a, 0, 2), only(b, 0, 2), only(c, 1)}},
	} {
		trims(t, "mark "+strconv.FormatInt(m.mark, 10), l, 5, 6, m.mark, m.want)
	}
	trims(t, "batches that don't rise", []Batch{c, a, b, a}, 5, 6, 3, []Batch{c, only(a, 0, 2), b, only(a, 0, 2)})
	top := batchOf(topSeq, 4, 5)
	trims(t, "the greatest Seq, mark below", []Batch{top}, 5, 6, topSeq-1, []Batch{top})
	trims(t, "the greatest Seq, at mark", []Batch{top}, 5, 6, topSeq, []Batch{only(top, 0)})
}

func TestTrimOfHours(t *testing.T) {
	b := batchOf(1, 3, 4, 5, 6, 7)
	l := []Batch{b}
	for _, c := range []struct {
		from, to int64
		want     []Batch
	}{
		{4, 6, []Batch{only(b, 0, 3, 4)}}, {4, 5, []Batch{only(b, 0, 2, 3, 4)}}, {3, 4, []Batch{only(b, 1, 2, 3, 4)}}, {7, 8, []Batch{only(b, 0, 1, 2, 3)}},
		{0, 3, l}, {8, 99, l}, {0, 4, []Batch{only(b, 1, 2, 3, 4)}}, {7, 99, []Batch{only(b, 0, 1, 2, 3)}},
		{3, 8, nil}, {3, 7, []Batch{only(b, 4)}}, {4, 8, []Batch{only(b, 0)}}, {0, topHour + 1, nil}, {least, greatest, nil},
		{5, 5, l}, {6, 5, l}, {7, 3, l}, {8, 3, l}, {greatest, least, l}, {least, least, l}, {greatest, greatest, l}, {0, 0, l},
		{least, 5, []Batch{only(b, 2, 3, 4)}}, {5, greatest, []Batch{only(b, 0, 1)}},
	} {
		trims(t, strconv.FormatInt(c.from, 10)+" to "+strconv.FormatInt(c.to, 10), l, c.from, c.to, 1, c.want)
		trims(t, "mark below", l, c.from, c.to, 0, l)
	}
	ends := batchOf(2, 0, topHour)
	trims(t, "the first hour", []Batch{ends}, 0, 1, 2, []Batch{only(ends, 1)})
	trims(t, "the last hour", []Batch{ends}, topHour, topHour+1, 2, []Batch{only(ends, 0)})
	trims(t, "all but the ends", []Batch{ends}, 1, topHour, 2, []Batch{ends})
}

func TestTrimLeavesOutBatchesWithoutFacts(t *testing.T) {
	a, b, c := batchOf(1, 4), batchOf(2, 4, 5), batchOf(3, 4, 4)
	none, empty := batchOf(4), Batch{Seq: 5, Tick: 1, Budget: 1, Facts: []api.Fact{}}
	trims(t, "nil", nil, 4, 5, 9, nil)
	trims(t, "no batch", []Batch{}, 4, 5, 9, nil)
	trims(t, "all, some and all", []Batch{a, b, c}, 4, 5, 9, []Batch{only(b, 1)})
	trims(t, "all gone", []Batch{a, b, c}, 4, 6, 9, nil)
	trims(t, "those up to mark gone", []Batch{a, b, c}, 4, 6, 2, []Batch{c})
	trims(t, "batches that had none, at mark or below", []Batch{none, a, empty}, 9, 10, 9, []Batch{a})
	trims(t, "batches that had none, above mark", []Batch{none, a, empty}, 9, 10, 0, []Batch{a})
	trims(t, "only batches that had none", []Batch{none, empty, {}}, 0, 0, 9, nil)
	trims(t, "only batches that had none, above mark", []Batch{none, empty, {}}, 0, 0, -1, nil)
}

// Trim asks no batch to be right.
func TestTrimOfBatchesThatAreNotRight(t *testing.T) {
	far := []api.Fact{factOf(least, least, "", "", "", "a text that is too long"), factOf(-1, 1), factOf(greatest, greatest)}
	l := []Batch{{least, least, least, far}, {0, -1, -1, far}, {greatest, greatest, greatest, times(60, far[1])}}
	trims(t, "nothing goes", l, 0, 0, greatest, l)
	trims(t, "mark at the least", l, least, greatest, least, []Batch{only(l[0], 2), l[1], l[2]})
	trims(t, "hours up to 0", l, least, 0, 0, []Batch{only(l[0], 2), only(l[1], 2), l[2]})
	trims(t, "hours up to 0, of all", l, least, 0, greatest, []Batch{only(l[0], 2), only(l[1], 2)})
	trims(t, "the greatest hour is below none", l, 0, greatest, greatest, l)
	beyond := []Batch{{1, 2, 3, []api.Fact{factOf(topHour, 1), factOf(topHour+1, 1), factOf(greatest-1, 1)}}}
	trims(t, "hours that are too far", beyond, topHour+1, greatest, 1, []Batch{only(beyond[0], 0)})
	trims(t, "one hour that is too far", beyond, greatest-1, greatest, 1, []Batch{only(beyond[0], 0, 1)})
}

// TestTrimOfFactsThatAreShared: also where batches come with the same facts, what comes of them is apart.
func TestTrimOfFactsThatAreShared(t *testing.T) {
	b := batchOf(1, 4, 5, 6)
	l := []Batch{b, b, {2, 2, 3, b.Facts}, {3, 2, 3, b.Facts[1:]}}
	left := Trim(l, 5, 6, 2)
	sameBatches(t, "Trim", left, []Batch{only(b, 0, 2), only(b, 0, 2), {2, 2, 3, only(b, 0, 2).Facts}, {3, 2, 3, b.Facts[1:]}})
	apart(t, "Trim", left)
	sameBatches(t, "what was handed in", l[:1], []Batch{batchOf(1, 4, 5, 6)})
}

// trimmed: what Trim answers by the chapter's words, told fact by fact.
func trimmed(l []Batch, from, to, mark int64) []Batch {
	var left []Batch
	for _, b := range l {
		var stay []int
		for i, f := range b.Facts {
			if b.Seq > mark || f.Key.Hour < from || f.Key.Hour >= to {
				stay = append(stay, i)
			}
		}
		if stay != nil {
			left = append(left, only(b, stay...))
		}
	}
	return left
}

// TestTrimOfAllWays: batches of each choice of hours, in each order of numbers, for all ranges of hours and marks.
func TestTrimOfAllWays(t *testing.T) {
	for way := range 1 << 6 {
		for _, seqs := range [][2]int64{{1, 2}, {1, 4}, {2, 1}, {2, 2}} {
			l := []Batch{batchOf(seqs[0]), batchOf(seqs[1])}
			for bit := range 6 {
				if way>>bit&1 == 1 {
					l[bit/3].Facts = append(l[bit/3].Facts, factOf(int64(bit%3)+1, int64(bit)))
				}
			}
			for from := int64(0); from <= 4; from++ {
				for to := int64(0); to <= 4; to++ {
					for mark := int64(0); mark <= 4; mark++ {
						trims(t, "way "+strconv.Itoa(way), l, from, to, mark, trimmed(l, from, to, mark))
					}
					finds(t, "way "+strconv.Itoa(way), l, from, to, found(l, from, to))
				}
			}
		}
	}
}

func TestTrimAndFactsWithoutAPattern(t *testing.T) {
	throw := stir(17)
	for range 2000 {
		l := make([]Batch, throw(8))
		for i := range l {
			l[i] = Batch{int64(throw(12)), int64(throw(9)), int64(throw(9)), nil}
			for range throw(9) {
				l[i].Facts = append(l[i].Facts, factOf(int64(throw(12)), int64(throw(3)), "a"))
			}
		}
		from, to, mark := int64(throw(13)), int64(throw(13)), int64(throw(13))
		trims(t, "without a pattern", l, from, to, mark, trimmed(l, from, to, mark))
		finds(t, "without a pattern", l, from, to, found(l, from, to))
	}
}

// --- P1703: Facts

// found: what Facts answers by the chapter's words.
func found(l []Batch, from, to int64) []api.Fact {
	var facts []api.Fact
	for _, b := range l {
		facts = append(facts, b.Facts...)
	}
	return slices.DeleteFunc(facts, func(f api.Fact) bool {
		return f.Key.Hour < from || f.Key.Hour >= to
	})
}

func TestFactsOfHours(t *testing.T) {
	one, two := factOf(4, 10, "b"), factOf(4, 5, "a")
	three, four := factOf(5, 1), factOf(3, 1)
	l := []Batch{{7, 2, 3, []api.Fact{three, one}}, batchOf(8), {2, 2, 3, []api.Fact{two, four, one}}}
	for _, c := range []struct {
		what     string
		from, to int64
		want     []api.Fact
	}{
		{"one hour, as they stand", 4, 5, []api.Fact{one, two, one}},
		{"an hour of the first batch", 5, 6, []api.Fact{three}},
		{"an hour of the last batch", 3, 4, []api.Fact{four}},
		{"all, as they stand", 3, 6, []api.Fact{three, one, two, four, one}},
		{"all hours there are", least, greatest, []api.Fact{three, one, two, four, one}},
		{"from is in, to is not", 3, 5, []api.Fact{one, two, four, one}},
		{"above", 6, 99, nil}, {"below", 0, 3, nil}, {"below 0", least, 0, nil},
		{"from at to", 4, 4, nil}, {"from above to", 5, 4, nil}, {"from far above to", greatest, least, nil},
	} {
		finds(t, c.what, l, c.from, c.to, c.want)
	}
	finds(t, "nil", nil, least, greatest, nil)
	finds(t, "no batch", []Batch{}, 0, 9, nil)
	finds(t, "batches without facts", []Batch{batchOf(1), {}}, least, greatest, nil)
}

func TestFactsOfHoursAtTheirEnds(t *testing.T) {
	b := batchOf(1, 0, topHour, -1, topHour+1, least, greatest)
	for _, c := range []struct {
		from, to int64
		places   []int
	}{
		{0, 1, []int{0}}, {topHour, topHour + 1, []int{1}}, {0, topHour + 1, []int{0, 1}}, {0, topHour, []int{0}}, {1, topHour, nil},
		{-1, 0, []int{2}}, {topHour + 1, topHour + 2, []int{3}}, {least, least + 1, []int{4}}, {least, least, nil},
		{greatest, greatest, nil}, {greatest - 1, greatest, nil}, {least, greatest, []int{0, 1, 2, 3, 4}}, {least, 0, []int{2, 4}},
	} {
		finds(t, strconv.FormatInt(c.from, 10)+" to "+strconv.FormatInt(c.to, 10), []Batch{b}, c.from, c.to, only(b, c.places...).Facts)
	}
}

// Facts of many batches, whatever their numbers are.
func TestFactsAsksNoSeq(t *testing.T) {
	var l []Batch
	var want []api.Fact
	for i := range int64(100) {
		b := Batch{50 - i, -i, i, times(60, factOf(3, i))}
		l, want = append(l, b), append(want, b.Facts...)
	}
	finds(t, "many", l, 3, 4, want)
	finds(t, "none of many", l, 4, 5, nil)
}

// --- P1703, both

// Where all batches are up to mark, what Facts tells is just what Trim takes away.
func TestTrimTakesWhatFactsTells(t *testing.T) {
	throw := stir(5)
	for range 300 {
		l := rising(throw(6), 1, throw)
		from, to := int64(throw(200)), int64(throw(200))
		left := Trim(l, from, to, topSeq)
		same(t, "facts of these hours that are left", len(Facts(left, from, to)), 0)
		same(t, "facts told and left", len(Facts(l, from, to))+len(Facts(left, 0, topHour+1)), len(Facts(l, 0, topHour+1)))
		sameBatches(t, "trimmed again", Trim(left, from, to, topSeq), left)
	}
}
