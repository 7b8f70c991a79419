package pack

import "slices"

// Writer puts bytes, one thing behind the other. The zero Writer has none.
type Writer struct {
	bytes []byte
}

// Num puts a number.
func (w *Writer) Num(n uint64) *Writer {
	if w == nil {
		return nil
	}
	for n >= more {
		w.bytes = append(w.bytes, byte(n)|more)
		n >>= bits
	}
	w.bytes = append(w.bytes, byte(n))
	return w
}

// Int puts a number that may be below 0.
func (w *Writer) Int(n int64) *Writer {
	return w.Num(turn(n))
}

// Text puts a text's length, and its bytes.
func (w *Writer) Text(s string) *Writer {
	if w == nil {
		return nil
	}
	w.Num(uint64(len(s)))
	w.bytes = append(w.bytes, s...)
	return w
}

// Bool puts one byte: 0 or 1.
func (w *Writer) Bool(b bool) *Writer {
	if b {
		return w.Num(1)
	}
	return w.Num(0)
}

// Bytes hands out a copy, so that nobody changes what was put.
func (w *Writer) Bytes() []byte {
	if w == nil {
		return nil
	}
	return slices.Clone(w.bytes)
}

// Len: how many bytes there are.
func (w *Writer) Len() int {
	if w == nil {
		return 0
	}
	return len(w.bytes)
}
