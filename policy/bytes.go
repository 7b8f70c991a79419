package policy

import (
	"ossuary/api"
	"ossuary/pack"
)

// mostNum: a Num above it is refused, whatever field it is of.
const mostNum = 1 << 62

// Encode: a policy as bytes.
func Encode(p api.Policy) ([]byte, api.Fault) {
	if fault := Check(p); fault != api.OK {
		return nil, fault
	}
	var w pack.Writer
	put := w.Num
	for _, field := range widen(p).fields() {
		put(uint64(*field))
	}
	return w.Bytes(), api.OK
}

// Read takes a policy off a reader. Of one that is refused for its numbers all of them are taken, so that the reader stands behind it.
func Read(r *pack.Reader) (api.Policy, api.Fault) {
	if r == nil {
		return api.Policy{}, api.BadArg
	}
	var w wide
	far := false
	for _, field := range w.fields() {
		n := r.Num()
		far = far || n > mostNum
		*field = int64(n)
	}
	if fault := r.Fault(); fault != api.OK {
		return api.Policy{}, fault
	}
	if far {
		return api.Policy{}, api.Range
	}
	if fault := w.check(); fault != api.OK {
		return api.Policy{}, fault
	}
	return w.narrow(), api.OK
}
