package seg

import (
	"ossuary/api"
	"ossuary/cell"
	"ossuary/fact"
)

// Merge: the segment of all rows of these, in which each key's cells are merged in the order of the segments.
func Merge(l ...*Seg) (*Seg, api.Fault) {
	rows, ok := once(together(l))
	if !ok {
		return nil, api.Overflow
	}
	return &Seg{rows}, api.OK
}

// together: all rows of these, by their keys, those of one key in the order of the segments; not to be changed. Cells are left as they are, since a key's cells that can be merged from the first on can't always be merged by halves.
func together(l []*Seg) []api.Row {
	switch len(l) {
	case 0:
		return nil
	case 1:
		return l[0].all()
	}
	half := len(l) / 2
	return both(together(l[:half]), together(l[half:]))
}

// both: the rows of a and b, whose keys never fall, as one such list; of one key those of a come first.
func both(a, b []api.Row) []api.Row {
	rows := make([]api.Row, 0, len(a)+len(b))
rest:
	for {
		switch {
		case len(a) == 0:
			rows = append(rows, b...)
			break rest
		case len(b) == 0:
			rows = append(rows, a...)
			break rest
		case fact.Compare(b[0].Key, a[0].Key) < 0:
			rows, b = append(rows, b[0]), b[1:]
		default:
			rows, a = append(rows, a[0]), a[1:]
		}
	}
	return rows
}

// once: each key of rows, which never fall, with its cells merged from the first on; false: they can't be.
func once(rows []api.Row) ([]api.Row, bool) {
	var merged []api.Row // it gets no more room than it needs: many rows may be of few keys
	for _, r := range rows {
		last := len(merged) - 1
		if last < 0 || merged[last].Key != r.Key {
			merged = append(merged, r)
			continue
		}
		c, ok := cell.Merge(merged[last].Cell, r.Cell)
		if !ok {
			return nil, false
		}
		merged[last].Cell = c
	}
	return merged, true
}
