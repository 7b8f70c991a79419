package manifest

import (
	"math"
	"slices"

	"ossuary/api"
	"ossuary/catalog"
	"ossuary/frame"
	"ossuary/pack"
	"ossuary/policy"
)

// Encode: a record as bytes.
func Encode(r Record) ([]byte, api.Fault) {
	if fault := Right(r); fault != api.OK {
		return nil, fault
	}
	rules, _ := policy.Encode(r.Rules) // has no fault of a policy that is right
	return frame.Put(slices.Concat(numbers(r), rules, edit(r.Edit))), api.OK
}

// Parse: the record whose frame has the payload p.
func Parse(p []byte) (Record, api.Fault) {
	r := &reader{Reader: pack.NewReader(p)}
	record, fault := r.record()
	if fault != api.OK {
		return Record{}, fault
	}
	if r.Left() > 0 || r.far {
		return Record{}, api.Malformed
	}
	if fault := Right(record); fault != api.OK {
		return Record{}, fault
	}
	return record, api.OK
}

// numbers: what stands ahead of a record's policy.
func numbers(r Record) []byte {
	var w pack.Writer
	w.Bool(r.Snap)
	put(&w, r.Seq, r.Tick, r.Budget, r.Floor, r.Next)
	return w.Bytes()
}

// edit: what stands behind a record's policy.
func edit(e catalog.Edit) []byte {
	var w pack.Writer
	put(&w, int64(len(e.Drop)))
	for _, p := range e.Drop {
		put(&w, int64(p.Tier), p.Index)
	}
	put(&w, int64(len(e.Put)))
	for _, x := range e.Put {
		put(&w, int64(x.Part.Tier), x.Part.Index, x.Seg, x.Mark, x.Rows)
		w.Bool(x.Cold)
	}
	return w.Bytes()
}

// put: numbers of a record that is right, so that none is below 0.
func put(w *pack.Writer, l ...int64) {
	for _, n := range l {
		w.Num(uint64(n))
	}
}

// reader reads a payload. Faults of the bytes are those of the reader within; a Num that is too far is told when all is read.
type reader struct {
	*pack.Reader
	far bool
}

// record reads one. A policy that is refused ends it, as what is wrong behind it comes too late.
func (r *reader) record() (Record, api.Fault) {
	var x Record
	x.Snap = r.Bool()
	next := r.num
	for _, field := range []*int64{&x.Seq, &x.Tick, &x.Budget, &x.Floor, &x.Next} {
		*field = next()
	}
	rules, fault := policy.Read(r.Reader)
	if fault != api.OK {
		return Record{}, fault
	}
	x.Rules = rules
	x.Edit.Drop = list(r, r.part)
	x.Edit.Put = list(r, r.entry)
	return x, r.Fault()
}

// num reads a number. Of one that no int64 holds it doesn't matter what comes of it: it is too far.
func (r *reader) num() int64 {
	n := r.Num()
	r.far = r.far || n > mostNum
	return int64(n)
}

// part reads a partition. A Tier that is beyond 32 bits is none, as the greatest of these is, which every int holds.
func (r *reader) part() api.Part {
	tier := min(r.num(), math.MaxInt32)
	return api.Part{Tier: int(tier), Index: r.num()}
}

// entry reads one.
func (r *reader) entry() api.Entry {
	return api.Entry{Part: r.part(), Seg: r.num(), Mark: r.num(), Rows: r.num(), Cold: r.Bool()}
}

// list reads how many things there are, and these. Behind a fault they are zero, and nobody is told of them.
func list[T any](r *reader, thing func() T) []T {
	l := make([]T, r.Count(mostEdit))
	for i := range l {
		l[i] = thing()
	}
	return l
}
