package segio

import (
	"ossuary/api"
	"ossuary/dict"
	"ossuary/frame"
	"ossuary/pack"
	"ossuary/seg"
)

// What is read of a segment at most.
const (
	mostTexts = 1 << 16 // of a dimension
	mostPlace = mostTexts - 1
	mostRows  = 1 << 20
	farHour   = api.MaxHour + 1 // stands for all that are too far, so that no sum of hours leaves its range
)

// reader reads a payload. Faults of the bytes are those of the reader within; what else is wrong is told when all is read.
type reader struct {
	*pack.Reader
	texts dicts
	wrong bool
}

// Decode: the segment whose bytes b is.
func Decode(b []byte, dims int) (*seg.Seg, api.Fault) {
	if fault := checkDims(dims); fault != api.OK {
		return nil, fault
	}
	p, n, fault := frame.Take(b)
	if fault != api.OK {
		return nil, fault
	}
	if n < len(b) {
		return nil, api.Malformed
	}
	return decode(p, dims)
}

// decode: the segment whose payload p is.
func decode(p []byte, dims int) (*seg.Seg, api.Fault) {
	r := &reader{Reader: pack.NewReader(p)}
	r.wrong = r.Num() != uint64(dims)
	for d := range dims {
		r.texts[d] = r.dimension()
	}
	l := r.rows(dims)
	if fault := r.Fault(); fault != api.OK {
		return nil, fault
	}
	if r.wrong || r.Left() > 0 {
		return nil, api.Malformed
	}
	s, fault := seg.Rows(l)
	if fault != api.OK {
		return nil, fault
	}
	if Fits(s, dims) != api.OK || !r.allUsed(s, dims) {
		return nil, api.Malformed
	}
	return s, api.OK
}

// dimension reads the texts of one.
func (r *reader) dimension() *dict.Dict[string] {
	var texts []string
	for i := range r.Count(mostTexts) {
		text := r.Text(api.MaxText)
		if r.Fault() != api.OK {
			return nil
		}
		if i > 0 && text <= texts[i-1] {
			r.wrong = true
		}
		texts = append(texts, text)
	}
	return dict.Of(texts)
}

// rows reads them, up to the first fault: many may be told where few are.
func (r *reader) rows(dims int) []api.Row {
	var l []api.Row
	hour := uint64(0)
	for range r.Count(mostRows) {
		hour = min(hour+min(r.Num(), farHour), farHour)
		k := api.Key{Hour: int64(hour)}
		for d := range dims {
			k.Dims[d] = r.text(d)
		}
		c := r.cell()
		if r.Fault() != api.OK {
			return nil
		}
		l = append(l, api.Row{Key: k, Cell: c})
	}
	return l
}

// text reads the place of one in a dimension.
func (r *reader) text(d int) string {
	text, is := r.texts[d].At(r.Count(mostPlace))
	if !is {
		r.wrong = true
	}
	return text
}

// cell reads one. A Count that no int64 holds comes to be below 0, which is no segment's either.
func (r *reader) cell() api.Cell {
	return api.Cell{Count: int64(r.Num()), Sum: r.Int(), Min: r.Int(), Max: r.Int()}
}

// allUsed: whether each text is at a row's place. All that the rows have come from there, so that it's enough to count them.
func (r *reader) allUsed(s *seg.Seg, dims int) bool {
	for d := range dims {
		if len(Texts(s, d)) != r.texts[d].Len() {
			return false
		}
	}
	return true
}
