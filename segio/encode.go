package segio

import (
	"ossuary/api"
	"ossuary/dict"
	"ossuary/frame"
	"ossuary/pack"
	"ossuary/seg"
)

// Encode: a segment's bytes.
func Encode(s *seg.Seg, dims int) ([]byte, api.Fault) {
	if fault := Fits(s, dims); fault != api.OK {
		return nil, fault
	}
	var w pack.Writer
	var texts dicts
	w.Num(uint64(dims))
	for d := range dims {
		texts[d] = putTexts(&w, Texts(s, d))
	}
	putRows(&w, s, texts[:dims])
	if w.Len() > api.MaxFile {
		return nil, api.Full
	}
	return frame.Put(w.Bytes()), api.OK
}

// putTexts puts those of a dimension, and answers where each has its place.
func putTexts(w *pack.Writer, l []string) *dict.Dict[string] {
	w.Num(uint64(len(l)))
	for _, text := range l {
		w.Text(text)
	}
	return dict.Of(l)
}

// putRows puts how many they are, and each one by the places of its texts.
func putRows(w *pack.Writer, s *seg.Seg, texts []*dict.Dict[string]) {
	w.Num(uint64(s.Len()))
	ahead := int64(0)
	for r := range rows(s) {
		w.Num(uint64(r.Key.Hour - ahead))
		ahead = r.Key.Hour
		for d, t := range texts {
			place, _ := t.Code(r.Key.Dims[d]) // each text has one: the dictionary is of these rows
			w.Num(uint64(place))
		}
		w.Num(uint64(r.Cell.Count)).Int(r.Cell.Sum).Int(r.Cell.Min).Int(r.Cell.Max)
	}
}
