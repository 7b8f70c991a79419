package pack

import (
	"slices"

	"ossuary/api"
)

// Reader reads what a Writer put, up to the first fault.
type Reader struct {
	bytes []byte
	at    int
	fault api.Fault
}

// taker hands out the next n bytes, or Truncated.
type taker func(n int) ([]byte, api.Fault)

// NewReader keeps a copy: what the caller does with b behind the call is not to be seen.
func NewReader(b []byte) *Reader {
	return &Reader{bytes: slices.Clone(b)}
}

// Num reads a number.
func (r *Reader) Num() uint64 {
	return read(r, number)
}

// Int reads a number that may be below 0.
func (r *Reader) Int() int64 {
	return back(r.Num())
}

// Text reads a text of at most most bytes.
func (r *Reader) Text(most int) string {
	return read(r, func(take taker) (string, api.Fault) {
		n, fault := count(take, most)
		if fault != api.OK {
			return "", fault
		}
		b, fault := take(n)
		return string(b), fault
	})
}

// Bool reads a byte that is 0 or 1.
func (r *Reader) Bool() bool {
	return read(r, flag)
}

// Count reads a number that is at most most.
func (r *Reader) Count(most int) int {
	return read(r, func(take taker) (int, api.Fault) {
		return count(take, most)
	})
}

// Left: how many bytes were not read.
func (r *Reader) Left() int {
	if r == nil {
		return 0
	}
	return len(r.bytes) - r.at
}

// Fault: the first one.
func (r *Reader) Fault() api.Fault {
	if r == nil {
		return api.Truncated
	}
	return r.fault
}

func (r *Reader) take(n int) ([]byte, api.Fault) {
	if n > r.Left() {
		return nil, api.Truncated
	}
	b := r.bytes[r.at : r.at+n]
	r.at += n
	return b, api.OK
}

// read goes on behind a thing only if all of it could be read: with a fault nothing else changes.
func read[T any](r *Reader, thing func(taker) (T, api.Fault)) T {
	var none T
	if r.Fault() != api.OK {
		return none
	}
	start := r.at
	x, fault := thing(r.take)
	if fault != api.OK {
		r.at, r.fault = start, fault
		return none
	}
	return x
}

func number(take taker) (uint64, api.Fault) {
	n := uint64(0)
groups:
	for i := range longest {
		b, fault := take(1)
		switch {
		case fault != api.OK:
			return 0, fault
		case b[0] >= more:
			n |= uint64(b[0]-more) << (bits * i)
			continue groups
		case i > 0 && b[0] == 0, i == longest-1 && b[0] > topmost:
			break groups
		}
		return n | uint64(b[0])<<(bits*i), api.OK
	}
	return 0, api.Malformed
}

// count tells Malformed ahead of what else may be wrong behind the number.
func count(take taker, most int) (int, api.Fault) {
	n, fault := number(take)
	if fault != api.OK {
		return 0, fault
	}
	if n > uint64(max(most, 0)) {
		return 0, api.Malformed
	}
	return int(n), api.OK
}

func flag(take taker) (bool, api.Fault) {
	b, fault := take(1)
	if fault != api.OK {
		return false, fault
	}
	if b[0] > 1 {
		return false, api.Malformed
	}
	return b[0] == 1, api.OK
}
