package cold

import (
	"slices"
	"strconv"
	"strings"
	"testing"

	"ossuary/api"
)

// same fails the test where got is not what the chapter says.
func same[T comparable](t *testing.T, what string, got, want T) {
	t.Helper()
	if got != want {
		t.Errorf("%s: %v, not %v", what, got, want)
	}
}

// tells fails the test where a list is not what the chapter says.
func tells[T comparable](t *testing.T, what string, got []T, want ...T) {
	t.Helper()
	if !slices.Equal(got, want) {
		t.Errorf("%s: %v, not %v", what, got, want)
	}
}

// object: a name and bytes.
type object struct {
	name, bytes string
}

// store: one that has these objects, in which no turn waits.
func store(t *testing.T, objects ...object) *Store {
	t.Helper()
	s := New()
	for _, o := range objects {
		same(t, "Put ahead", s.Put(o.name, []byte(o.bytes)), api.OK)
	}
	return s
}

// looks fails the test where s tells, by its looks, of other objects than these, told by names that rise, or of other turns.
func looks(t *testing.T, what string, s *Store, waits int, objects ...object) {
	t.Helper()
	var names []string
	var n int
	for _, o := range objects {
		names = append(names, o.name)
		n += len(o.bytes)
		same(t, what+": Has "+o.name, s.Has(o.name), true)
	}
	tells(t, what+": Names", s.Names(), names...)
	same(t, what+": Bytes", s.Bytes(), int64(n))
	same(t, what+": Waits", s.Waits(), waits)
}

// gets fails the test where Get of an object does not answer these bytes.
func gets(t *testing.T, what string, s *Store, o object) {
	t.Helper()
	b, fault := s.Get(o.name)
	same(t, what+": Get "+o.name+": its fault", fault, api.OK)
	if string(b) != o.bytes {
		t.Errorf("%s: Get %s: %d bytes %.60q, not %d bytes %.60q", what, o.name, len(b), b, len(o.bytes), o.bytes)
	}
}

// holds fails the test where s has anything but these objects, told by names that rise, and no turn.
func holds(t *testing.T, what string, s *Store, objects ...object) {
	t.Helper()
	looks(t, what, s, 0, objects...)
	for _, o := range objects {
		gets(t, what, s, o)
	}
}

// refused fails the test where Get of that name has not this fault, and no bytes beside it.
func refused(t *testing.T, what string, s *Store, name string, want api.Fault) {
	t.Helper()
	b, fault := s.Get(name)
	same(t, what+": its fault", fault, want)
	if b != nil {
		t.Errorf("%s: bytes %v beside a fault", what, b)
	}
}

// badNames: those that no object may have.
func badNames() []string {
	return []string{"", strings.Repeat("n", api.MaxName+1), strings.Repeat("é", api.MaxName/2) + "n", strings.Repeat("\x00", api.MaxName+1), strings.Repeat("n", 1<<17)}
}

// goodNames: rising.
func goodNames() []string {
	return []string{"\x00", " ", "/", "a", "a\x00", "aa", strings.Repeat("n", api.MaxName-1), strings.Repeat("n", api.MaxName), strings.Repeat("é", api.MaxName/2), "\xff", "\xff\xfe"}
}

// full: as many bytes as an object may have, no two stretches of them alike by chance.
func full() []byte {
	b := make([]byte, api.MaxFile)
	for i := range b {
		b[i] = byte(i ^ i>>8 ^ i>>16)
	}
	return b
}

// taking: each kind of call that takes a turn, of an object of that name; what it answers if the object is there, and if not.
type taking struct {
	what         string
	do           func(s *Store, name string) api.Fault
	there, other api.Fault
}

func allTaking() []taking {
	return []taking{
		{"Put", func(s *Store, name string) api.Fault { return s.Put(name, []byte("put")) }, api.OK, api.OK},
		{"Put of no bytes", func(s *Store, name string) api.Fault { return s.Put(name, nil) }, api.OK, api.OK},
		{"Put of too much", func(s *Store, name string) api.Fault { return s.Put(name, make([]byte, api.MaxFile+1)) }, api.Full, api.Full},
		{"Get", func(s *Store, name string) api.Fault {
			_, fault := s.Get(name)
			return fault
		}, api.OK, api.Unknown},
		{"Delete", func(s *Store, name string) api.Fault { return s.Delete(name) }, api.OK, api.Unknown},
	}
}

func TestExample(t *testing.T) {
	s := New()
	s.Fail([]bool{true})
	same(t, "Put", s.Put("a", nil), api.Away)
	same(t, "Put again", s.Put("a", nil), api.OK)
	holds(t, "behind it", s, object{"a", ""})
}

// --- P1601: Put

func TestPut(t *testing.T) {
	s := New()
	holds(t, "a new store", s)
	for _, c := range []struct {
		put  object
		want []object
	}{
		{object{"b", "one"}, []object{{"b", "one"}}},
		{object{"c", "two"}, []object{{"b", "one"}, {"c", "two"}}},
		{object{"a", "\x00\xff"}, []object{{"a", "\x00\xff"}, {"b", "one"}, {"c", "two"}}},
		{object{"b", "other"}, []object{{"a", "\x00\xff"}, {"b", "other"}, {"c", "two"}}},
		{object{"b", "o"}, []object{{"a", "\x00\xff"}, {"b", "o"}, {"c", "two"}}},
		{object{"c", ""}, []object{{"a", "\x00\xff"}, {"b", "o"}, {"c", ""}}},
		{object{"c", ""}, []object{{"a", "\x00\xff"}, {"b", "o"}, {"c", ""}}},
		{object{"c", "again"}, []object{{"a", "\x00\xff"}, {"b", "o"}, {"c", "again"}}},
	} {
		same(t, "Put "+c.put.name, s.Put(c.put.name, []byte(c.put.bytes)), api.OK)
		holds(t, "behind Put "+c.put.name+c.put.bytes, s, c.want...)
	}
}

func TestPutOfNoBytes(t *testing.T) {
	for _, none := range [][]byte{nil, {}} {
		s := store(t, object{"b", "bytes"})
		same(t, "Put of a new object", s.Put("a", none), api.OK)
		holds(t, "behind it", s, object{"a", ""}, object{"b", "bytes"})
		same(t, "Put of an object that is there", s.Put("b", none), api.OK)
		holds(t, "behind it", s, object{"a", ""}, object{"b", ""})
		same(t, "Put of an empty object", s.Put("a", []byte("x")), api.OK)
		holds(t, "behind it", s, object{"a", "x"}, object{"b", ""})
	}
}

func TestPutOfMaxFile(t *testing.T) {
	most := full()
	s := store(t, object{"b", "bytes"})
	for _, n := range []int{api.MaxFile - 1, api.MaxFile} {
		for _, name := range []string{"a", "b"} {
			same(t, "Put", s.Put(name, most[:n]), api.OK)
		}
		holds(t, strconv.Itoa(n)+" bytes", s, object{"a", string(most[:n])}, object{"b", string(most[:n])})
	}
	same(t, "Put of a third one", s.Put("c", most), api.OK)
	same(t, "Bytes of three", s.Bytes(), 3*api.MaxFile)
}

func TestPutOfMoreThanMaxFile(t *testing.T) {
	for _, n := range []int{api.MaxFile + 1, 2 * api.MaxFile} {
		s := store(t, object{"b", "bytes"}, object{"c", ""})
		s.Fail([]bool{false, false, false, false, true})
		for i, name := range []string{"a", "b", "c"} {
			same(t, "Put", s.Put(name, make([]byte, n)), api.Full)
			looks(t, "behind it", s, 4-i, object{"b", "bytes"}, object{"c", ""})
		}
		refused(t, "Get of what was not put", s, "a", api.Unknown)
		refused(t, "Get by a turn that is true", s, "b", api.Away)
		holds(t, "behind all turns", s, object{"b", "bytes"}, object{"c", ""})
		same(t, "Put, without a turn", s.Put("b", make([]byte, n)), api.Full)
		holds(t, "behind it", s, object{"b", "bytes"}, object{"c", ""})
	}
}

// --- P1601: Get, Delete

func TestGet(t *testing.T) {
	s := store(t, object{"a", "bytes"}, object{"b", ""})
	for _, name := range []string{"A", "a\x00", "aa", "c", "\x00"} {
		refused(t, "Get of no object", s, name, api.Unknown)
	}
	for range 3 {
		gets(t, "some bytes", s, object{"a", "bytes"})
		gets(t, "no bytes", s, object{"b", ""})
	}
	holds(t, "behind it", s, object{"a", "bytes"}, object{"b", ""})
	refused(t, "Get where there is no object at all", New(), "a", api.Unknown)
}

func TestDelete(t *testing.T) {
	s := store(t, object{"a", "bytes"}, object{"b", ""}, object{"c", "more"})
	for _, name := range []string{"A", "a\x00", "aa", "d", "\x00"} {
		same(t, "Delete of no object", s.Delete(name), api.Unknown)
	}
	holds(t, "behind it", s, object{"a", "bytes"}, object{"b", ""}, object{"c", "more"})
	same(t, "Delete", s.Delete("a"), api.OK)
	holds(t, "behind it", s, object{"b", ""}, object{"c", "more"})
	same(t, "Delete again", s.Delete("a"), api.Unknown)
	refused(t, "Get of what is gone", s, "a", api.Unknown)
	same(t, "Has what is gone", s.Has("a"), false)
	same(t, "Delete of an empty object", s.Delete("b"), api.OK)
	same(t, "Delete of an empty object, again", s.Delete("b"), api.Unknown)
	holds(t, "behind it", s, object{"c", "more"})
	same(t, "Put of what is gone", s.Put("a", []byte("new")), api.OK)
	holds(t, "behind it", s, object{"a", "new"}, object{"c", "more"})
	same(t, "Delete", s.Delete("c"), api.OK)
	same(t, "Delete of the last", s.Delete("a"), api.OK)
	holds(t, "behind all", s)
	same(t, "Delete where there is no object at all", s.Delete("a"), api.Unknown)
}

// --- P1601: names

func TestNamesThatAnObjectMayHave(t *testing.T) {
	for _, name := range goodNames() {
		s := New()
		s.Fail([]bool{true, true, true})
		same(t, "Put, its turn true", s.Put(name, []byte("x")), api.Away)
		refused(t, "Get, its turn true", s, name, api.Away)
		same(t, "Delete, its turn true", s.Delete(name), api.Away)
		same(t, "Put", s.Put(name, []byte("x")), api.OK)
		holds(t, "an object", s, object{name, "x"})
		same(t, "Delete", s.Delete(name), api.OK)
		holds(t, "no object", s)
	}
	var want []object
	s := New()
	for i, name := range goodNames() {
		want = append(want, object{name, strings.Repeat("x", i)})
	}
	for _, o := range slices.Backward(want) {
		same(t, "Put", s.Put(o.name, []byte(o.bytes)), api.OK)
	}
	holds(t, "all of them", s, want...)
}

func TestNamesOfEachLength(t *testing.T) {
	for n := range 3 * api.MaxName {
		name := strings.Repeat("n", n)
		for _, c := range allTaking() {
			s := store(t, object{"a", "bytes"})
			s.Fail([]bool{false, true})
			want, waits := c.other, 1
			if n < 1 || n > api.MaxName {
				want, waits = api.Range, 2
			}
			what := c.what + ", " + strconv.Itoa(n) + " bytes"
			same(t, what, c.do(s, name), want)
			same(t, what+": Waits", s.Waits(), waits)
			same(t, what+": Has", s.Has(name), want == api.OK)
		}
	}
}

func TestNamesThatNoObjectMayHave(t *testing.T) {
	for _, name := range badNames() {
		for _, turns := range [][]bool{{}, {false}, {true}, {true, false}, {false, true}} {
			s := store(t, object{"a", "bytes"})
			s.Fail(turns)
			for _, c := range allTaking() {
				same(t, c.what, c.do(s, name), api.Range)
				refused(t, "Get", s, name, api.Range)
				looks(t, c.what, s, len(turns), object{"a", "bytes"})
			}
			same(t, "Has", s.Has(name), false)
			for _, turn := range turns {
				same(t, "Put behind it, by its turn", s.Put("a", []byte("bytes")) == api.Away, turn)
			}
			holds(t, "behind all", s, object{"a", "bytes"})
		}
	}
}

// --- P1601: which fault is answered first

func TestRangeIsAheadOfTheOthers(t *testing.T) {
	for _, name := range badNames() {
		s := New()
		same(t, "Put of too much", s.Put(name, make([]byte, api.MaxFile+1)), api.Range)
		s.Fail([]bool{true})
		same(t, "Put of too much, a turn true", s.Put(name, make([]byte, api.MaxFile+1)), api.Range)
		same(t, "Put, a turn true", s.Put(name, nil), api.Range)
		refused(t, "Get, a turn true", s, name, api.Range)
		same(t, "Delete, a turn true", s.Delete(name), api.Range)
		looks(t, "behind it", s, 1)
	}
}

func TestAwayIsAheadOfFullAndUnknown(t *testing.T) {
	s := store(t, object{"a", "bytes"})
	s.Fail([]bool{true, true, true, true, false, false, false})
	same(t, "Put of too much, a turn true", s.Put("a", make([]byte, api.MaxFile+1)), api.Away)
	same(t, "Put of too much to a new object, a turn true", s.Put("b", make([]byte, api.MaxFile+1)), api.Away)
	refused(t, "Get of no object, a turn true", s, "b", api.Away)
	same(t, "Delete of no object, a turn true", s.Delete("b"), api.Away)
	looks(t, "behind it", s, 3, object{"a", "bytes"})
	same(t, "Put of too much, a turn false", s.Put("a", make([]byte, api.MaxFile+1)), api.Full)
	refused(t, "Get of no object, a turn false", s, "b", api.Unknown)
	same(t, "Delete of no object, a turn false", s.Delete("b"), api.Unknown)
	holds(t, "behind all", s, object{"a", "bytes"})
}

// --- what is handed in and out

func TestWhatIsPutIsNotKept(t *testing.T) {
	s := New()
	room := []byte("abcdef")
	same(t, "Put", s.Put("a", room[:3]), api.OK)
	same(t, "Put", s.Put("b", room[:0]), api.OK)
	same(t, "what was handed in", string(room), "abcdef")
	copy(room, "uvwxyz")
	holds(t, "behind a change", s, object{"a", "abc"}, object{"b", ""})
	same(t, "Put again", s.Put("a", room[1:5]), api.OK)
	copy(room, "------")
	holds(t, "behind a change", s, object{"a", "vwxy"}, object{"b", ""})
	same(t, "Put of others", s.Put("c", []byte("123456")), api.OK)
	same(t, "what was handed in", string(room), "------")
}

func TestWhatIsReadIsNewMemory(t *testing.T) {
	s := store(t, object{"a", "abc"}, object{"b", ""})
	one, _ := s.Get("a")
	two, _ := s.Get("a")
	none, _ := s.Get("b")
	copy(one, "xyz")
	_ = append(one, "!!!!"...)
	_ = append(none, "!!!!"...)
	same(t, "what was read beside it", string(two), "abc")
	_ = append(two[:1], "??"...)
	same(t, "what was read first", string(one), "xyz")
	holds(t, "behind changes", s, object{"a", "abc"}, object{"b", ""})
	same(t, "Put of what was read", s.Put("b", one), api.OK)
	copy(one, "---")
	holds(t, "behind a change", s, object{"a", "abc"}, object{"b", "xyz"})
	kept, _ := s.Get("b")
	same(t, "Put of another", s.Put("b", []byte("123")), api.OK)
	same(t, "Delete", s.Delete("a"), api.OK)
	same(t, "what was read ahead of it", string(kept), "xyz")
}

func TestNamesAreNewMemory(t *testing.T) {
	s := store(t, object{"a", "1"}, object{"b", "2"})
	one, two := s.Names(), s.Names()
	one[0], one[1] = "x", "y"
	_ = append(one[:0], "z", "z", "z")
	tells(t, "names beside them", two, "a", "b")
	same(t, "Put", s.Put("aa", nil), api.OK)
	tells(t, "names ahead of it", two, "a", "b")
	holds(t, "behind changes", s, object{"a", "1"}, object{"aa", ""}, object{"b", "2"})
}

// TestStoresApart: none has what another one has.
func TestStoresApart(t *testing.T) {
	a, b := New(), New()
	same(t, "Put", a.Put("x", []byte("1")), api.OK)
	b.Fail([]bool{true, true})
	holds(t, "one of two", a, object{"x", "1"})
	looks(t, "the other", b, 2)
	same(t, "Put, a turn true", b.Put("x", nil), api.Away)
	holds(t, "one of two", a, object{"x", "1"})
}

// --- nil, and a zero value

func TestNil(t *testing.T) {
	var s *Store
	for range 2 {
		s.Fail(nil)
		s.Fail([]bool{true, false})
		for _, name := range append(badNames(), "a") {
			for _, c := range allTaking() {
				same(t, c.what+" of nil", c.do(s, name), api.BadArg)
			}
			refused(t, "Get of nil", s, name, api.BadArg)
			same(t, "Has of nil", s.Has(name), false)
		}
		tells(t, "Names of nil", s.Names())
		same(t, "Waits of nil", s.Waits(), 0)
		same(t, "Bytes of nil", s.Bytes(), 0)
	}
}

func TestZeroValue(t *testing.T) {
	var s Store
	looks(t, "a zero value", &s, 0)
	same(t, "Delete of no object", s.Delete("a"), api.Unknown)
	refused(t, "Get of no object", &s, "a", api.Unknown)
	s.Fail([]bool{true})
	same(t, "Put, a turn true", s.Put("a", []byte("1")), api.Away)
	same(t, "Put", s.Put("a", []byte("1")), api.OK)
	holds(t, "a zero value", &s, object{"a", "1"})
}
