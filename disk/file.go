package disk

import "ossuary/api"

// file: bytes, of which the first ones are safe.
type file struct {
	bytes []byte
	safe  int
}

func (f *file) loose() int {
	return len(f.bytes) - f.safe
}

// crash: what keep leaves of the loose bytes, from none to all of them, is safe; the others are gone.
func (f *file) crash(keep int) {
	stay := f.safe
	if keep > 0 {
		stay += keep % (f.loose() + 1)
	}
	f.bytes = f.bytes[:stay:stay] // no spare room: what is gone still stands there
	f.safe = stay
}

// named: whether a file may have that name.
func named(name string) bool {
	return len(name) >= 1 && len(name) <= api.MaxName
}
