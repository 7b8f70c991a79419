package fact

import (
	"ossuary/api"
	"ossuary/pack"
)

// Encode: a batch as bytes.
func Encode(l []api.Fact, dims int) ([]byte, api.Fault) {
	if fault, _ := All(l, dims); fault != api.OK {
		return nil, fault
	}
	var w pack.Writer
	num, text, value := w.Num, w.Text, w.Int
	num(uint64(len(l)))
	for _, f := range l {
		num(uint64(f.Key.Hour))
		for _, s := range f.Key.Dims[:dims] {
			text(s)
		}
		value(f.Value)
	}
	return w.Bytes(), api.OK
}

// Read: the batch whose bytes b is.
func Read(b []byte, dims int) ([]api.Fact, api.Fault) {
	if !counted(dims) {
		return nil, api.BadArg
	}
	r := pack.NewReader(b)
	l, fault := readList(r, dims)
	if fault != api.OK {
		return nil, fault
	}
	if r.Left() > 0 {
		return nil, api.Malformed
	}
	if fault, _ := All(l, dims); fault != api.OK {
		return nil, fault
	}
	return l, api.OK
}

// readList reads facts, right or not, and how many they are, up to the first fault.
func readList(r *pack.Reader, dims int) ([]api.Fact, api.Fault) {
	l := make([]api.Fact, r.Count(api.MaxBatch))
	for i := range l {
		f, fault := readFact(r, dims)
		if fault != api.OK {
			return nil, fault
		}
		l[i] = f
	}
	return l, r.Fault()
}

// readFact tells Range ahead of what may be wrong behind the hour; a reader with a fault has an hour of 0.
func readFact(r *pack.Reader, dims int) (api.Fact, api.Fault) {
	var f api.Fact
	hour := r.Num()
	if hour > api.MaxHour {
		return f, api.Range
	}
	f.Key.Hour = int64(hour)
	for i := range dims {
		f.Key.Dims[i] = r.Text(api.MaxText)
	}
	f.Value = r.Int()
	return f, r.Fault()
}
