package disk

import (
	"maps"
	"math/big"
	"slices"
	"strconv"
	"strings"
	"testing"

	"ossuary/api"
)

// device: what a disk can do.
type device interface {
	Append(name string, b []byte) api.Fault
	Sync(name string) api.Fault
	Rename(from, to string) api.Fault
	Remove(name string) api.Fault
	Read(name string) ([]byte, api.Fault)
	Has(name string) bool
	Names() []string
	Arm(n int) api.Fault
	Crash(keep int)
	Down() bool
	Bytes() int64
	Loose(name string) int
}

// model: a disk by the chapter's words: a list of files as texts, in no order.
type model struct {
	files []held
	armed bool
	at, n int // it goes down at that call; how many have counted since it was armed
	down  bool
}

func (m *model) place(name string) int {
	return slices.IndexFunc(m.files, func(f held) bool { return f.name == name })
}

// counts: a call counts; false: the disk went down at it.
func (m *model) counts() bool {
	m.n++
	m.down = m.armed && m.n == m.at
	return !m.down
}

func (m *model) Append(name string, b []byte) api.Fault {
	if m.down {
		return api.Down
	}
	if name == "" || len(name) > 40 {
		return api.Range
	}
	i := m.place(name)
	if i < 0 && len(b) > 1<<22 || i >= 0 && len(m.files[i].safe)+len(m.files[i].loose)+len(b) > 1<<22 {
		return api.Full
	}
	if i < 0 {
		m.files = append(m.files, held{name: name})
		i = len(m.files) - 1
	}
	m.files[i].loose += string(b)
	if !m.counts() {
		return api.Down
	}
	return api.OK
}

func (m *model) Sync(name string) api.Fault {
	i := m.place(name)
	switch {
	case m.down:
		return api.Down
	case i < 0:
		return api.Unknown
	case !m.counts():
		return api.Down
	}
	m.files[i] = held{name, m.files[i].safe + m.files[i].loose, ""}
	return api.OK
}

func (m *model) Rename(from, to string) api.Fault {
	i := m.place(from)
	switch {
	case m.down:
		return api.Down
	case to == "" || len(to) > 40:
		return api.Range
	case i < 0:
		return api.Unknown
	case !m.counts():
		return api.Down
	}
	if from == to {
		return api.OK
	}
	m.files[i].name = ""
	m.files = slices.DeleteFunc(m.files, func(f held) bool { return f.name == to })
	m.files[m.place("")].name = to
	return api.OK
}

func (m *model) Remove(name string) api.Fault {
	i := m.place(name)
	switch {
	case m.down:
		return api.Down
	case i < 0:
		return api.Unknown
	case !m.counts():
		return api.Down
	}
	m.files = slices.Delete(m.files, i, i+1)
	return api.OK
}

func (m *model) Read(name string) ([]byte, api.Fault) {
	i := m.place(name)
	if m.down {
		return nil, api.Down
	}
	if i < 0 {
		return nil, api.Unknown
	}
	return []byte(m.files[i].safe + m.files[i].loose), api.OK
}

func (m *model) Has(name string) bool {
	return m.place(name) >= 0
}

func (m *model) Names() []string {
	var l []string
	for _, f := range m.files {
		l = append(l, f.name)
	}
	slices.Sort(l)
	return l
}

func (m *model) Arm(n int) api.Fault {
	if m.down {
		return api.Down
	}
	if n < 1 {
		return api.Range
	}
	m.armed, m.at, m.n = true, n, 0
	return api.OK
}

func (m *model) Crash(keep int) {
	for i, f := range m.files {
		var stay big.Int
		if keep >= 0 {
			stay.Mod(big.NewInt(int64(keep)), big.NewInt(int64(len(f.loose)+1)))
		}
		m.files[i] = held{f.name, f.safe + f.loose[:stay.Int64()], ""}
	}
	m.armed, m.down = false, false
}

func (m *model) Down() bool {
	return m.down
}

func (m *model) Bytes() int64 {
	var n int64
	for _, f := range m.files {
		n += int64(len(f.safe + f.loose))
	}
	return n
}

func (m *model) Loose(name string) int {
	if i := m.place(name); i >= 0 {
		return len(m.files[i].loose)
	}
	return 0
}

// alike fails the test where the disk doesn't tell what the model does, of these names.
func alike(t *testing.T, d, m device, names []string) {
	t.Helper()
	tells(t, "Names", d.Names(), m.Names()...)
	same(t, "Bytes", d.Bytes(), m.Bytes())
	same(t, "Down", d.Down(), m.Down())
	for _, name := range names {
		same(t, "Has", d.Has(name), m.Has(name))
		same(t, "Loose", d.Loose(name), m.Loose(name))
		b, fault := d.Read(name)
		want, wanted := m.Read(name)
		same(t, "Read", string(b), string(want))
		same(t, "Read: its fault", fault, wanted)
	}
}

// call: one of a device, with its turn, by which its bytes are told apart.
type call struct {
	what string
	do   func(d device, turn int) api.Fault
}

// text: n bytes of a turn.
func text(turn, n int) []byte {
	return []byte(strings.Repeat(string(rune('A'+turn%26)), n))
}

// puts: how many bytes an Append of counting puts.
func puts(name string) int {
	if name == "a" {
		return 1
	}
	return 2
}

// counting: calls that count, if their file is there, of two names.
func counting() []call {
	l := []call{
		{"Append a", func(d device, turn int) api.Fault { return d.Append("a", text(turn, puts("a"))) }},
		{"Append b", func(d device, turn int) api.Fault { return d.Append("b", text(turn, puts("b"))) }},
	}
	for _, name := range []string{"a", "b"} {
		l = append(l,
			call{"Sync " + name, func(d device, _ int) api.Fault { return d.Sync(name) }},
			call{"Remove " + name, func(d device, _ int) api.Fault { return d.Remove(name) }})
		for _, to := range []string{"a", "b"} {
			l = append(l, call{"Rename " + name + to, func(d device, _ int) api.Fault { return d.Rename(name, to) }})
		}
	}
	return l
}

// others: calls that don't count, but change how the others go.
func others() []call {
	var l []call
	for _, n := range []int{0, 1, 2} {
		l = append(l, call{"Arm " + strconv.Itoa(n), func(d device, _ int) api.Fault { return d.Arm(n) }})
	}
	for _, keep := range []int{-1, 0, 1, 2} {
		l = append(l, call{"Crash " + strconv.Itoa(keep), func(d device, _ int) api.Fault {
			d.Crash(keep)
			return api.OK
		}})
	}
	return append(l, call{"Append of nothing", func(d device, _ int) api.Fault { return d.Append("a", nil) }})
}

// TestEachWayOfFewCalls: each row of four calls, with the same one of a model.
func TestEachWayOfFewCalls(t *testing.T) {
	calls := append(counting(), others()...)
	ways := len(calls) * len(calls) * len(calls) * len(calls)
	for way := range ways {
		d, m := New(), &model{}
		did := ""
		for turn, rest := 0, way; turn < 4; turn++ {
			c := calls[rest%len(calls)]
			rest /= len(calls)
			did += c.what + "; "
			same(t, c.what, c.do(d, turn), c.do(m, turn))
		}
		alike(t, d, m, []string{"a", "b"})
		if t.Failed() {
			t.Fatal(did)
		}
	}
}

// wild: numbers without a pattern, the same ones in each run.
type wild uint64

func (w *wild) below(n int) int {
	*w = *w*6364136223846793005 + 1442695040888963407
	return int(uint64(*w)>>33) % n
}

// step: one call of a device, told by wild numbers.
func step(d device, w wild, names []string) api.Fault {
	name, other := names[w.below(len(names))], names[w.below(len(names))]
	switch kind := w.below(40); {
	case kind < 16:
		return d.Append(name, text(w.below(26), w.below(9)))
	case kind < 22:
		return d.Sync(name)
	case kind < 28:
		return d.Rename(name, other)
	case kind < 31:
		return d.Remove(name)
	case kind < 34:
		return d.Arm(w.below(14) - 1)
	case kind < 36:
		d.Crash(w.below(12) - 2)
	case d.Down():
		d.Crash(w.below(1 << 30))
	}
	return api.OK
}

func TestManyCalls(t *testing.T) {
	for seed := range wild(20) {
		d, m := New(), &model{}
		names := []string{"a", "b", "seg.1", "seg.2", "wal", "", strings.Repeat("n", 40), strings.Repeat("n", 41)}[seed%3:]
		w := seed
		for turn := range 3000 {
			w.below(1)
			same(t, "a fault", step(d, w, names), step(m, w, names))
			alike(t, d, m, names)
			if t.Failed() {
				t.Fatalf("seed %d, turn %d", seed, turn)
			}
		}
	}
}

// --- P1504

// kept: files by their names.
type kept map[string]held

// keptBy: the files of a disk that is not down.
func keptBy(d *Disk) kept {
	l := kept{}
	for _, name := range d.Names() {
		b, _ := d.Read(name)
		cut := len(b) - d.Loose(name)
		l[name] = held{name, string(b[:cut]), string(b[cut:])}
	}
	return l
}

// isBeginning fails the test where a file of d isn't a beginning of what it was, with all that was safe, or where other files are there.
func isBeginning(t *testing.T, d *Disk, were kept) {
	t.Helper()
	tells(t, "Names", d.Names(), slices.Sorted(maps.Keys(were))...)
	for name, f := range were {
		b, fault := d.Read(name)
		same(t, "Read: its fault", fault, api.OK)
		if !strings.HasPrefix(string(b), f.safe) || !strings.HasPrefix(f.safe+f.loose, string(b)) {
			t.Errorf("%s has %q, and had %q safe, %q loose", name, b, f.safe, f.loose)
		}
		same(t, "Loose", d.Loose(name), 0)
	}
}

// goesOn fails the test where d isn't as any disk is that is neither down nor armed.
func goesOn(t *testing.T, d *Disk) {
	t.Helper()
	same(t, "Down", d.Down(), false)
	ahead, _ := d.Read("a")
	bytes := d.Bytes()
	same(t, "Append", d.Append("a", []byte("!")), api.OK)
	same(t, "Append", d.Append("a", []byte("?")), api.OK)
	same(t, "Loose", d.Loose("a"), 2)
	same(t, "Bytes", d.Bytes(), bytes+2)
	same(t, "Sync", d.Sync("a"), api.OK)
	same(t, "Rename", d.Rename("a", "z"), api.OK)
	b, _ := d.Read("z")
	same(t, "Read", string(b), string(ahead)+"!?")
	same(t, "Remove", d.Remove("z"), api.OK)
}

// fallen: a disk that was armed with n ahead of that row of calls, and what it had ahead of the one at which it went down, with what an Append has put there; of a disk that did not go down: what it has.
func fallen(row []call, n int) (*Disk, kept) {
	d := New()
	d.Append("a", []byte("12"))
	d.Sync("a")
	d.Append("a", []byte("34"))
	d.Arm(n)
	for turn, c := range row {
		were := keptBy(d)
		if c.do(d, turn) != api.Down {
			continue
		}
		if name, is := strings.CutPrefix(c.what, "Append "); is {
			f := were[name]
			were[name] = held{name, f.safe, f.loose + string(text(turn, puts(name)))}
		}
		return d, were
	}
	return d, keptBy(d)
}

// TestLaw: each row of four calls, down at each of them or at none, with each keep.
func TestLaw(t *testing.T) {
	calls := counting()
	for way := range len(calls) * len(calls) * len(calls) * len(calls) {
		var row []call
		for rest := way; len(row) < 4; rest /= len(calls) {
			row = append(row, calls[rest%len(calls)])
		}
		for n := 1; n <= 5; n++ {
			for keep := -1; keep <= 6; keep++ {
				d, were := fallen(row, n)
				d.Crash(keep)
				isBeginning(t, d, were)
				goesOn(t, d)
			}
		}
		if t.Failed() {
			t.Fatalf("the way %d", way)
		}
	}
}

// goDown: Appends and Syncs, told by wild numbers, up to the one at which d goes down; what was safe last.
func goDown(t *testing.T, d *Disk, w *wild) string {
	t.Helper()
	b, _ := d.Read("a")
	was := string(b)
	for turn := range 1000 {
		if w.below(3) == 0 {
			d.Sync("a")
		} else {
			d.Append("a", text(turn, w.below(5)))
		}
		if d.Down() {
			return was
		}
		if d.Loose("a") == 0 {
			b, _ := d.Read("a")
			was = string(b)
		}
	}
	t.Fatal("a disk that is armed doesn't go down")
	return was
}

// TestLawOfCrashesInTurn: what was safe once stays, whatever crashes come.
func TestLawOfCrashesInTurn(t *testing.T) {
	for seed := range wild(200) {
		d := New()
		w := seed
		for range 40 {
			d.Arm(1 + w.below(6))
			was := goDown(t, d, &w)
			d.Crash(w.below(1 << 20))
			b, _ := d.Read("a")
			same(t, "whether all that was safe is there", strings.HasPrefix(string(b), was), true)
		}
	}
}

// TestTheSameTwice: what a disk tells hangs on its calls alone.
func TestTheSameTwice(t *testing.T) {
	names := []string{"a", "b", "c", "d", "e"}
	for seed := range wild(10) {
		d, e := New(), New()
		w := seed
		for range 500 {
			w.below(1)
			same(t, "a fault", step(d, w, names), step(e, w, names))
			alike(t, d, e, names)
		}
	}
}
