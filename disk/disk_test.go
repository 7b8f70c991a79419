package disk

import (
	"math"
	"slices"
	"strings"
	"testing"

	"ossuary/api"
)

// same fails the test where got is not what the chapter says.
func same[T comparable](t *testing.T, what string, got, want T) {
	t.Helper()
	if got != want {
		t.Errorf("%s: %v, not %v", what, got, want)
	}
}

// tells fails the test where a list is not what the chapter says.
func tells[T comparable](t *testing.T, what string, got []T, want ...T) {
	t.Helper()
	if !slices.Equal(got, want) {
		t.Errorf("%s: %v, not %v", what, got, want)
	}
}

// reads fails the test where bytes are not what the chapter says, of which it tells but the first ones: they may be many.
func reads(t *testing.T, what string, got []byte, want string) {
	t.Helper()
	if string(got) != want {
		t.Errorf("%s: %d bytes %.60q, not %d bytes %.60q", what, len(got), got, len(want), want)
	}
}

// held: a file as the chapter's words have it.
type held struct {
	name, safe, loose string
}

// disk: one that has these files.
func disk(t *testing.T, files ...held) *Disk {
	t.Helper()
	d := New()
	for _, f := range files {
		same(t, "Append of what shall be safe", d.Append(f.name, []byte(f.safe)), api.OK)
		same(t, "Sync", d.Sync(f.name), api.OK)
		same(t, "Append of what shall be loose", d.Append(f.name, []byte(f.loose)), api.OK)
	}
	return d
}

// looks fails the test where d has other files than these, told by names that rise, or does not tell of them. What a disk that is down has in a file, it can't tell.
func looks(t *testing.T, what string, d *Disk, files ...held) {
	t.Helper()
	var names []string
	var n int
	for _, f := range files {
		names = append(names, f.name)
		n += len(f.safe) + len(f.loose)
		same(t, what+": Has "+f.name, d.Has(f.name), true)
		same(t, what+": Loose "+f.name, d.Loose(f.name), len(f.loose))
		b, fault := d.Read(f.name)
		if d.Down() {
			same(t, what+": Read "+f.name+", down: its fault", fault, api.Down)
			reads(t, what+": Read "+f.name+", down", b, "")
		} else {
			same(t, what+": Read "+f.name+": its fault", fault, api.OK)
			reads(t, what+": Read "+f.name, b, f.safe+f.loose)
		}
	}
	tells(t, what+": Names", d.Names(), names...)
	same(t, what+": Bytes", d.Bytes(), int64(n))
}

// refused: what Read answers, of a file that can't be read.
func refused(t *testing.T, what string, d *Disk, name string, want api.Fault) {
	t.Helper()
	b, fault := d.Read(name)
	same(t, what+": its fault", fault, want)
	if b != nil {
		t.Errorf("%s: bytes %v beside a fault", what, b)
	}
}

// badNames: those that no file may have.
func badNames() []string {
	return []string{"", strings.Repeat("n", api.MaxName+1), strings.Repeat("é", api.MaxName/2) + "n", strings.Repeat("\x00", api.MaxName+1), strings.Repeat("n", 1<<17)}
}

// goodNames: rising.
func goodNames() []string {
	return []string{"\x00", " ", "/", "a", "a\x00", "aa", strings.Repeat("n", api.MaxName-1), strings.Repeat("n", api.MaxName), strings.Repeat("é", api.MaxName/2), "\xff", "\xff\xfe"}
}

// full: as many bytes as a file may have, no two stretches of them alike by chance.
func full() []byte {
	b := make([]byte, api.MaxFile)
	for i := range b {
		b[i] = byte(i ^ i>>8 ^ i>>16)
	}
	return b
}

func TestExample(t *testing.T) {
	d := New()
	same(t, "Append", d.Append("a", []byte("ab")), api.OK)
	same(t, "Sync", d.Sync("a"), api.OK)
	same(t, "Append", d.Append("a", []byte("cd")), api.OK)
	d.Crash(1)
	looks(t, "behind the crash", d, held{"a", "abc", ""})
}

// --- P1501: Append

func TestAppend(t *testing.T) {
	d := New()
	same(t, "Append of a new file", d.Append("b", []byte("one")), api.OK)
	looks(t, "a new file", d, held{"b", "", "one"})
	same(t, "Append behind loose bytes", d.Append("b", []byte("two")), api.OK)
	looks(t, "loose bytes", d, held{"b", "", "onetwo"})
	d.Sync("b")
	same(t, "Append behind safe bytes", d.Append("b", []byte("\x00\xff")), api.OK)
	looks(t, "safe bytes", d, held{"b", "onetwo", "\x00\xff"})
	same(t, "Append behind both", d.Append("b", []byte("!")), api.OK)
	same(t, "Append of another file", d.Append("a", []byte("other")), api.OK)
	looks(t, "two files", d, held{"a", "", "other"}, held{"b", "onetwo", "\x00\xff!"})
}

func TestAppendOfNoBytes(t *testing.T) {
	for _, none := range [][]byte{nil, {}} {
		d := disk(t, held{"b", "safe", "loose"}, held{"c", "safe", ""}, held{"d", "", "loose"})
		for _, name := range []string{"a", "b", "c", "d", "e", "a"} {
			same(t, "Append of no bytes", d.Append(name, none), api.OK)
		}
		looks(t, "behind it", d, held{"a", "", ""}, held{"b", "safe", "loose"}, held{"c", "safe", ""}, held{"d", "", "loose"}, held{"e", "", ""})
		same(t, "Append behind no bytes", d.Append("a", []byte("x")), api.OK)
		looks(t, "a file that had no bytes", d, held{"a", "", "x"}, held{"b", "safe", "loose"}, held{"c", "safe", ""}, held{"d", "", "loose"}, held{"e", "", ""})
	}
}

func TestNames(t *testing.T) {
	for _, name := range goodNames() {
		d := New()
		same(t, "Append", d.Append(name, []byte("x")), api.OK)
		looks(t, "a file", d, held{name, "", "x"})
		same(t, "Sync", d.Sync(name), api.OK)
		looks(t, "a safe file", d, held{name, "x", ""})
		same(t, "Rename away", d.Rename(name, "other"), api.OK)
		looks(t, "another name", d, held{"other", "x", ""})
		same(t, "Rename back", d.Rename("other", name), api.OK)
		looks(t, "its name", d, held{name, "x", ""})
		same(t, "Remove", d.Remove(name), api.OK)
		looks(t, "no file", d)
	}
}

func TestNamesThatNoFileMayHave(t *testing.T) {
	for _, name := range badNames() {
		d := disk(t, held{"a", "ab", "cd"})
		for _, b := range [][]byte{nil, []byte("x")} {
			same(t, "Append", d.Append(name, b), api.Range)
		}
		same(t, "Rename to it", d.Rename("a", name), api.Range)
		same(t, "Rename of it", d.Rename(name, "b"), api.Unknown)
		same(t, "Rename of it to itself", d.Rename(name, name), api.Range)
		same(t, "Sync", d.Sync(name), api.Unknown)
		same(t, "Remove", d.Remove(name), api.Unknown)
		refused(t, "Read", d, name, api.Unknown)
		same(t, "Has", d.Has(name), false)
		same(t, "Loose", d.Loose(name), 0)
		looks(t, "behind it", d, held{"a", "ab", "cd"})
	}
}

func TestNamesOfEachLength(t *testing.T) {
	for n := range 3 * api.MaxName {
		d := disk(t, held{"a", "ab", "cd"})
		name := strings.Repeat("n", n)
		want := api.OK
		if n < 1 || n > api.MaxName {
			want = api.Range
		}
		same(t, "Append", d.Append(name, nil), want)
		same(t, "Has", d.Has(name), want == api.OK)
		same(t, "Rename", d.Rename("a", name), want)
		same(t, "Has of the name from", d.Has("a"), want != api.OK)
		same(t, "Bytes", d.Bytes(), 4)
	}
}

func TestAppendOfMaxFile(t *testing.T) {
	most := full()
	for _, cut := range []int{0, 1, api.MaxFile / 2, api.MaxFile - 1, api.MaxFile} {
		d := New()
		same(t, "Append of a part", d.Append("a", most[:cut]), api.OK)
		same(t, "Append of the rest and one more", d.Append("a", append(slices.Clone(most[cut:]), 1)), api.Full)
		same(t, "Append of the rest", d.Append("a", most[cut:]), api.OK)
		want := held{"a", "", string(most)}
		looks(t, "a full file", d, want)
		same(t, "Append of one byte", d.Append("a", []byte{1}), api.Full)
		same(t, "Append of many bytes", d.Append("a", most), api.Full)
		same(t, "Append of no bytes", d.Append("a", nil), api.OK)
		looks(t, "a full file, behind more", d, want)
		d.Sync("a")
		same(t, "Append of one byte to a safe file", d.Append("a", []byte{1}), api.Full)
		looks(t, "a full file that is safe", d, held{"a", string(most), ""})
		same(t, "Append of one byte to another file", d.Append("b", []byte{1}), api.OK)
		looks(t, "two files", d, held{"a", string(most), ""}, held{"b", "", "\x01"})
	}
}

func TestAppendOfMoreThanMaxFile(t *testing.T) {
	for _, n := range []int{api.MaxFile + 1, 2 * api.MaxFile} {
		d := disk(t, held{"b", "x", "y"}, held{"c", "", ""})
		for _, name := range []string{"a", "b", "c"} {
			same(t, "Append", d.Append(name, make([]byte, n)), api.Full)
		}
		looks(t, "behind it", d, held{"b", "x", "y"}, held{"c", "", ""})
	}
}

func TestRoomBehindACrash(t *testing.T) {
	most := full()
	d := New()
	d.Append("a", most[:10])
	d.Sync("a")
	d.Append("a", most[10:])
	d.Crash(5)
	same(t, "Append of one more than there is room", d.Append("a", most[14:]), api.Full)
	same(t, "Append of as many as there is room", d.Append("a", most[15:]), api.OK)
	looks(t, "a file that is full again", d, held{"a", string(most[:15]), string(most[15:])})
	same(t, "Remove", d.Remove("a"), api.OK)
	same(t, "Append of a new file", d.Append("a", most), api.OK)
	looks(t, "a new file", d, held{"a", "", string(most)})
}

// --- P1501: Sync

func TestSync(t *testing.T) {
	d := disk(t, held{"a", "", "loose"}, held{"b", "safe", "loose"}, held{"c", "safe", ""}, held{"d", "", ""})
	same(t, "Sync of loose bytes", d.Sync("a"), api.OK)
	looks(t, "one safe file", d, held{"a", "loose", ""}, held{"b", "safe", "loose"}, held{"c", "safe", ""}, held{"d", "", ""})
	for _, name := range []string{"b", "c", "d", "a", "b"} {
		same(t, "Sync", d.Sync(name), api.OK)
	}
	want := []held{{"a", "loose", ""}, {"b", "safeloose", ""}, {"c", "safe", ""}, {"d", "", ""}}
	looks(t, "safe files", d, want...)
	d.Crash(0)
	looks(t, "safe files behind a crash", d, want...)
}

func TestSyncOfNoFile(t *testing.T) {
	d := disk(t, held{"b", "ab", "cd"})
	for _, name := range []string{"a", "B", "b\x00", "bb", "c"} {
		same(t, "Sync", d.Sync(name), api.Unknown)
	}
	looks(t, "behind it", d, held{"b", "ab", "cd"})
	same(t, "Sync where there is no file at all", New().Sync("b"), api.Unknown)
}

// --- P1501: Rename

func TestRename(t *testing.T) {
	for _, f := range []held{{"b", "safe", "loose"}, {"b", "", "loose"}, {"b", "safe", ""}, {"b", "", ""}} {
		for _, to := range []string{"a", "c"} {
			d := disk(t, f)
			same(t, "Rename", d.Rename("b", to), api.OK)
			looks(t, "behind it", d, held{to, f.safe, f.loose})
			same(t, "Has of the name from", d.Has("b"), false)
			same(t, "Rename again", d.Rename("b", to), api.Unknown)
			same(t, "Append behind it", d.Append(to, []byte("!")), api.OK)
			same(t, "Append of the name from", d.Append("b", []byte("new")), api.OK)
			d.Remove("b")
			looks(t, "behind more", d, held{to, f.safe, f.loose + "!"})
		}
	}
}

func TestRenameToAFileThatIsThere(t *testing.T) {
	kinds := []held{{"", "safe", "loose"}, {"", "", "other"}, {"", "more", ""}, {"", "", ""}}
	for _, from := range kinds {
		for _, to := range kinds {
			d := disk(t, held{"a", from.safe, from.loose}, held{"b", to.safe + "2", to.loose}, held{"c", "x", "y"})
			same(t, "Rename", d.Rename("a", "b"), api.OK)
			looks(t, "behind it", d, held{"b", from.safe, from.loose}, held{"c", "x", "y"})
			d.Crash(1)
			same(t, "Rename back", d.Rename("b", "a"), api.OK)
			b, _ := d.Read("a")
			same(t, "what stays", string(b), from.safe+from.loose[:min(len(from.loose), 1)])
			tells(t, "Names", d.Names(), "a", "c")
		}
	}
}

func TestRenameToItself(t *testing.T) {
	for _, f := range []held{{"a", "safe", "loose"}, {"a", "", "loose"}, {"a", "safe", ""}, {"a", "", ""}} {
		d := disk(t, f, held{"b", "x", "y"})
		same(t, "Rename", d.Rename("a", "a"), api.OK)
		looks(t, "behind it", d, f, held{"b", "x", "y"})
	}
	same(t, "Rename of no file to itself", disk(t, held{"b", "x", "y"}).Rename("a", "a"), api.Unknown)
}

func TestRenameOfNoFile(t *testing.T) {
	d := disk(t, held{"b", "ab", "cd"})
	for _, from := range []string{"a", "bb", "c", ""} {
		for _, to := range []string{"a", "b", "c"} {
			same(t, "Rename", d.Rename(from, to), api.Unknown)
		}
	}
	looks(t, "behind it", d, held{"b", "ab", "cd"})
}

func TestRenameInTurn(t *testing.T) {
	d := disk(t, held{"a", "1", "2"}, held{"b", "3", "4"})
	for _, name := range [][2]string{{"a", "c"}, {"b", "a"}, {"c", "b"}} {
		same(t, "Rename", d.Rename(name[0], name[1]), api.OK)
	}
	looks(t, "two files, changed over", d, held{"a", "3", "4"}, held{"b", "1", "2"})
	d.Append("a", []byte("!"))
	d.Sync("b")
	looks(t, "one of them changed", d, held{"a", "3", "4!"}, held{"b", "12", ""})
}

// --- P1501: Remove, Read

func TestRemove(t *testing.T) {
	d := disk(t, held{"a", "safe", "loose"}, held{"b", "", ""}, held{"c", "x", "y"})
	same(t, "Remove", d.Remove("a"), api.OK)
	looks(t, "behind it", d, held{"b", "", ""}, held{"c", "x", "y"})
	same(t, "Remove again", d.Remove("a"), api.Unknown)
	same(t, "Remove of an empty file", d.Remove("b"), api.OK)
	same(t, "Remove of what never was", d.Remove("d"), api.Unknown)
	looks(t, "behind it", d, held{"c", "x", "y"})
	d.Crash(1)
	looks(t, "behind a crash", d, held{"c", "xy", ""})
	same(t, "Append of what was removed", d.Append("a", []byte("new")), api.OK)
	looks(t, "a file made again", d, held{"a", "", "new"}, held{"c", "xy", ""})
	same(t, "Remove of the last", d.Remove("c"), api.OK)
	same(t, "Remove of the last", d.Remove("a"), api.OK)
	looks(t, "no file", d)
	same(t, "Remove where there is no file at all", d.Remove("a"), api.Unknown)
}

func TestRead(t *testing.T) {
	d := disk(t, held{"a", "safe", "loose"}, held{"b", "", ""})
	refused(t, "Read of no file", d, "c", api.Unknown)
	refused(t, "Read of another name", d, "A", api.Unknown)
	b, fault := d.Read("b")
	same(t, "Read of an empty file", len(b), 0)
	same(t, "Read of an empty file: its fault", fault, api.OK)
	for range 3 {
		b, fault := d.Read("a")
		same(t, "Read", string(b), "safeloose")
		same(t, "Read: its fault", fault, api.OK)
	}
	looks(t, "behind it", d, held{"a", "safe", "loose"}, held{"b", "", ""})
}

// --- P1501: which fault is answered first

func TestRangeIsAheadOfTheOthers(t *testing.T) {
	d := disk(t, held{"a", "ab", "cd"})
	for _, name := range badNames() {
		same(t, "Append of too much to such a name", d.Append(name, make([]byte, api.MaxFile+1)), api.Range)
		same(t, "Rename of no file to such a name", d.Rename("x", name), api.Range)
		same(t, "Rename of no name to such a name", d.Rename("", name), api.Range)
	}
	looks(t, "behind it", d, held{"a", "ab", "cd"})
}

func TestDownIsAheadOfTheOthers(t *testing.T) {
	d := disk(t, held{"a", "ab", "cd"})
	same(t, "Arm", d.Arm(1), api.OK)
	same(t, "Sync, at which it goes down", d.Sync("a"), api.Down)
	for _, name := range append(badNames(), "a", "b") {
		same(t, "Append", d.Append(name, nil), api.Down)
		same(t, "Append of too much", d.Append(name, make([]byte, api.MaxFile+1)), api.Down)
		same(t, "Sync", d.Sync(name), api.Down)
		same(t, "Remove", d.Remove(name), api.Down)
		refused(t, "Read", d, name, api.Down)
		for _, to := range append(badNames(), "a", "b") {
			same(t, "Rename", d.Rename(name, to), api.Down)
		}
	}
	for _, n := range []int{math.MinInt, -1, 0, 1, 2, math.MaxInt} {
		same(t, "Arm", d.Arm(n), api.Down)
	}
	looks(t, "behind it", d, held{"a", "ab", "cd"})
	d.Crash(2)
	looks(t, "behind the crash", d, held{"a", "abcd", ""})
	same(t, "Append, many", d.Append("a", nil), api.OK)
	same(t, "Append, many", d.Append("a", nil), api.OK)
	same(t, "whether it is down", d.Down(), false)
}

// --- what is handed in and out

func TestWhatIsHandedInIsNotKept(t *testing.T) {
	d := New()
	room := []byte("abcdef")
	b := room[:3]
	d.Append("a", b)
	copy(room, "xyzxyz")
	looks(t, "a new file", d, held{"a", "", "abc"})
	copy(room, "defghi")
	d.Append("a", b)
	same(t, "what was handed in", string(room), "defghi")
	d.Sync("a")
	d.Append("b", b)
	copy(room, "------")
	looks(t, "two files", d, held{"a", "abcdef", ""}, held{"b", "", "def"})
	d.Append("a", room)
	d.Crash(2)
	looks(t, "behind a crash", d, held{"a", "abcdef--", ""}, held{"b", "de", ""})
	same(t, "what was handed in", string(room), "------")
}

func TestWhatIsReadIsNewMemory(t *testing.T) {
	d := disk(t, held{"a", "ab", "cdef"}, held{"b", "ab", "cdef"})
	first, _ := d.Read("a")
	second, _ := d.Read("a")
	clear(first)
	first = append(first, "more"...)
	same(t, "what was read again", string(second), "abcdef")
	looks(t, "the disk", d, held{"a", "ab", "cdef"}, held{"b", "ab", "cdef"})
	d.Append("a", []byte("XYZ"))
	d.Rename("a", "b")
	d.Crash(1)
	d.Append("b", []byte("123"))
	same(t, "what was read ahead of it", string(second), "abcdef")
	same(t, "what was read and changed", string(first), "\x00\x00\x00\x00\x00\x00more")
	second = append(second[:2], "!!!!!!!!!!"...)
	looks(t, "the disk", d, held{"b", "abc", "123"})
	same(t, "what was read and changed", string(second), "ab!!!!!!!!!!")
}

func TestNamesAreNewMemory(t *testing.T) {
	d := disk(t, held{"a", "", ""}, held{"b", "", ""})
	l := d.Names()
	l[0] = "x"
	_ = append(l[:1], "y")
	tells(t, "Names", d.Names(), "a", "b")
	m := d.Names()
	d.Remove("a")
	d.Append("c", nil)
	tells(t, "Names, ahead of that", m, "a", "b")
	tells(t, "Names", d.Names(), "b", "c")
}

// --- what holds of all

func TestNil(t *testing.T) {
	var d *Disk
	for _, name := range append(append(badNames(), goodNames()...), "a") {
		same(t, "Append", d.Append(name, []byte("x")), api.BadArg)
		same(t, "Append of too much", d.Append(name, make([]byte, api.MaxFile+1)), api.BadArg)
		same(t, "Sync", d.Sync(name), api.BadArg)
		same(t, "Remove", d.Remove(name), api.BadArg)
		same(t, "Rename", d.Rename(name, "a"), api.BadArg)
		same(t, "Rename", d.Rename("a", name), api.BadArg)
		refused(t, "Read", d, name, api.BadArg)
		same(t, "Has", d.Has(name), false)
		same(t, "Loose", d.Loose(name), 0)
	}
	for _, n := range []int{math.MinInt, -1, 0, 1, math.MaxInt} {
		same(t, "Arm", d.Arm(n), api.BadArg)
		d.Crash(n)
	}
	tells(t, "Names", d.Names())
	same(t, "Down", d.Down(), false)
	same(t, "Bytes", d.Bytes(), 0)
}

// TestZeroValue: a disk that no New made is as one that New made.
func TestZeroValue(t *testing.T) {
	var d Disk
	looks(t, "an empty disk", &d)
	refused(t, "Read", &d, "a", api.Unknown)
	same(t, "Sync", d.Sync("a"), api.Unknown)
	same(t, "Append", d.Append("a", []byte("abc")), api.OK)
	looks(t, "a file", &d, held{"a", "", "abc"})
	same(t, "Arm", d.Arm(1), api.OK)
	same(t, "Append", d.Append("a", []byte("d")), api.Down)
	d.Crash(3)
	looks(t, "behind a crash", &d, held{"a", "abc", ""})
}

func TestDisksAreApart(t *testing.T) {
	d, e := New(), New()
	d.Append("a", []byte("x"))
	looks(t, "the other", e)
	d.Arm(1)
	same(t, "Append to the other", e.Append("a", []byte("y")), api.OK)
	same(t, "Append", d.Append("a", []byte("z")), api.Down)
	same(t, "whether the other is down", e.Down(), false)
	d.Crash(0)
	looks(t, "the other", e, held{"a", "", "y"})
	looks(t, "the one", d, held{"a", "", ""})
}
