package ask

import (
	"ossuary/api"
	"ossuary/pack"
)

// farthest: a Num above it is no hour, and might be no int64.
const farthest = 1 << 62

// Encode: a query as bytes.
func Encode(q api.Query, dims int) ([]byte, api.Fault) {
	if fault := Check(q, dims); fault != api.OK {
		return nil, fault
	}
	var w pack.Writer
	w.Num(uint64(q.From)).Num(uint64(q.To))
	for i := range dims {
		w.Bool(q.Group[i]).Bool(q.Has[i])
		if q.Has[i] {
			w.Text(q.Filter[i])
		}
	}
	return w.Bytes(), api.OK
}

// Read: the query whose bytes b is.
func Read(b []byte, dims int) (api.Query, api.Fault) {
	if fault := checkDims(dims); fault != api.OK {
		return api.Query{}, fault
	}
	r := pack.NewReader(b)
	from, to := r.Num(), r.Num()
	q := readDims(r, dims)
	if fault := r.Fault(); fault != api.OK {
		return api.Query{}, fault
	}
	if r.Left() > 0 {
		return api.Query{}, api.Malformed
	}
	if max(from, to) > farthest {
		return api.Query{}, api.Range
	}
	q.From, q.To = int64(from), int64(to)
	if fault := Check(q, dims); fault != api.OK {
		return api.Query{}, fault
	}
	return q, api.OK
}

// readDims reads what a query has in each dimension, and leaves its hours 0.
func readDims(r *pack.Reader, dims int) api.Query {
	var q api.Query
	flag := r.Bool
	for i := range dims {
		q.Group[i] = flag()
		q.Has[i] = flag()
		if q.Has[i] {
			q.Filter[i] = r.Text(api.MaxText)
		}
	}
	return q
}
