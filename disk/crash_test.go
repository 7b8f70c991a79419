package disk

import (
	"math"
	"strconv"
	"strings"
	"testing"

	"ossuary/api"
)

// whole: a keep of which all loose bytes of a file stay, if they are up to nine: one more would divide by each number from 1 to 10.
const whole = 2519

// base: the files ahead of each call of allCounted.
func base() []held {
	return []held{{"a", "12", "34"}, {"b", "5", "67"}}
}

// counted: a call that counts, of a disk that has the files of base; down: what that has behind it, if it goes down at it; up: if it does not.
type counted struct {
	what     string
	do       func(d *Disk) api.Fault
	down, up []held
}

func allCounted() []counted {
	more := []held{{"a", "12", "34xy"}, {"b", "5", "67"}}
	made := append(base(), held{"c", "", "xy"})
	bare := append(base(), held{"c", "", ""})
	return []counted{
		{"Append", func(d *Disk) api.Fault { return d.Append("a", []byte("xy")) }, more, more},
		{"Append of a new file", func(d *Disk) api.Fault { return d.Append("c", []byte("xy")) }, made, made},
		{"Append of no bytes", func(d *Disk) api.Fault { return d.Append("a", nil) }, base(), base()},
		{"Append of a new file, of no bytes", func(d *Disk) api.Fault { return d.Append("c", nil) }, bare, bare},
		{"Sync", func(d *Disk) api.Fault { return d.Sync("a") }, base(), []held{{"a", "1234", ""}, {"b", "5", "67"}}},
		{"Rename to a new one", func(d *Disk) api.Fault { return d.Rename("a", "c") }, base(), []held{{"b", "5", "67"}, {"c", "12", "34"}}},
		{"Rename to one that is there", func(d *Disk) api.Fault { return d.Rename("a", "b") }, base(), []held{{"b", "12", "34"}}},
		{"Rename to itself", func(d *Disk) api.Fault { return d.Rename("a", "a") }, base(), base()},
		{"Remove", func(d *Disk) api.Fault { return d.Remove("a") }, base(), []held{{"b", "5", "67"}}},
	}
}

// uncounted: calls that do not count, of such a disk; those that may have a fault must have one.
func uncounted(t *testing.T, d *Disk) []func() {
	long := strings.Repeat("n", api.MaxName+1)
	fault := func(what string, want api.Fault, do func() api.Fault) func() {
		return func() {
			t.Helper()
			same(t, what, do(), want)
		}
	}
	return []func(){
		fault("Append without a name", api.Range, func() api.Fault { return d.Append("", []byte("x")) }),
		fault("Append of a long name", api.Range, func() api.Fault { return d.Append(long, nil) }),
		fault("Append of too much", api.Full, func() api.Fault { return d.Append("a", make([]byte, api.MaxFile)) }),
		fault("Append of too much to a new file", api.Full, func() api.Fault { return d.Append("new", make([]byte, api.MaxFile+1)) }),
		fault("Sync", api.Unknown, func() api.Fault { return d.Sync("none") }),
		fault("Rename to no name", api.Range, func() api.Fault { return d.Rename("a", "") }),
		fault("Rename to a long name", api.Range, func() api.Fault { return d.Rename("a", long) }),
		fault("Rename of no file", api.Unknown, func() api.Fault { return d.Rename("none", "a") }),
		fault("Rename of no file to itself", api.Unknown, func() api.Fault { return d.Rename("none", "none") }),
		fault("Remove", api.Unknown, func() api.Fault { return d.Remove("none") }),
		fault("Arm", api.Range, func() api.Fault { return d.Arm(0) }),
		func() { d.Read("a") },
		func() { d.Read("none") },
		func() { d.Has("a") },
		func() { d.Names() },
		func() { d.Down() },
		func() { d.Bytes() },
		func() { d.Loose("a") },
	}
}

// quiet: so many calls that count, but leave the files of base as they are.
func quiet(t *testing.T, d *Disk, n int) {
	t.Helper()
	for i := range n {
		if i%2 == 0 {
			same(t, "Append of no bytes, ahead", d.Append("a", nil), api.OK)
		} else {
			same(t, "Rename to itself, ahead", d.Rename("b", "b"), api.OK)
		}
	}
}

// isDown fails the test where d is not down with these files.
func isDown(t *testing.T, what string, d *Disk, files []held) {
	t.Helper()
	same(t, what+": whether it is down", d.Down(), true)
	looks(t, what, d, files...)
	d.Crash(whole)
	same(t, what+": whether it is down behind a crash", d.Down(), false)
	looks(t, what+", behind a crash that keeps all", d, safe(files)...)
}

// safe: these files, if all is safe.
func safe(files []held) []held {
	var l []held
	for _, f := range files {
		l = append(l, held{f.name, f.safe + f.loose, ""})
	}
	return l
}

// --- P1502: Arm

func TestEachCallThatCountsAsTheLast(t *testing.T) {
	for _, c := range allCounted() {
		for n := 1; n <= 7; n++ {
			what := c.what + " as call " + strconv.Itoa(n)
			d := disk(t, base()...)
			same(t, "Arm", d.Arm(n), api.OK)
			quiet(t, d, n-1)
			same(t, what+": whether it is down ahead", d.Down(), false)
			same(t, what, c.do(d), api.Down)
			isDown(t, what, d, c.down)
		}
	}
}

func TestEachCallThatCountsAheadOfTheLast(t *testing.T) {
	for _, c := range allCounted() {
		d := disk(t, base()...)
		same(t, "Arm", d.Arm(2), api.OK)
		same(t, c.what, c.do(d), api.OK)
		same(t, "whether it is down", d.Down(), false)
		looks(t, c.what, d, c.up...)
		same(t, "Sync behind it", d.Sync("b"), api.Down)
		isDown(t, c.what, d, c.up)
	}
}

func TestEachPairOfCallsThatCount(t *testing.T) {
	for _, first := range allCounted() {
		for _, second := range allCounted() {
			d := disk(t, base()...)
			same(t, "Arm", d.Arm(3), api.OK)
			same(t, first.what, first.do(d), api.OK)
			ahead := d.Names()
			if fault := second.do(d); fault != api.OK { // the first one has taken its file away
				same(t, second.what+" behind "+first.what, fault, api.Unknown)
				tells(t, "Names behind a fault", d.Names(), ahead...)
				same(t, "Append as the second", d.Append("d", nil), api.OK)
			}
			same(t, "whether it is down", d.Down(), false)
			same(t, "Append as the third", d.Append("d", nil), api.Down)
		}
	}
}

func TestCallsThatDoNotCount(t *testing.T) {
	for n := 1; n <= 4; n++ {
		d := disk(t, base()...)
		calls := uncounted(t, d)
		all := func() {
			for _, call := range calls {
				call()
				call()
			}
			same(t, "whether it is down", d.Down(), false)
			looks(t, "behind calls that don't count", d, base()...)
		}
		same(t, "Arm", d.Arm(n), api.OK)
		for range n - 1 {
			all()
			quiet(t, d, 1)
		}
		all()
		same(t, "Remove", d.Remove("a"), api.Down)
		isDown(t, "Remove", d, base())
	}
}

func TestArm(t *testing.T) {
	for _, n := range []int{1, 2, 3, 1000} {
		d := disk(t, base()...)
		quiet(t, d, 5) // ahead of Arm: they play no part
		same(t, "Arm", d.Arm(n), api.OK)
		same(t, "whether it is down", d.Down(), false)
		quiet(t, d, n-1)
		same(t, "Sync", d.Sync("a"), api.Down)
		isDown(t, "Sync", d, base())
		quiet(t, d, 2*n+2) // behind the crash: it is armed no more
	}
}

func TestArmOfTheGreatestNumber(t *testing.T) {
	d := disk(t, base()...)
	for range 3 {
		same(t, "Arm", d.Arm(math.MaxInt), api.OK)
		quiet(t, d, 1000)
	}
	looks(t, "behind it", d, base()...)
}

func TestArmBelowOne(t *testing.T) {
	for _, n := range []int{0, -1, -2, math.MinInt + 1, math.MinInt} {
		d := disk(t, base()...)
		same(t, "Arm", d.Arm(n), api.Range)
		quiet(t, d, 10)
		same(t, "Arm with 3", d.Arm(3), api.OK)
		quiet(t, d, 1)
		same(t, "Arm, armed", d.Arm(n), api.Range)
		quiet(t, d, 1)
		same(t, "Sync", d.Sync("a"), api.Down)
		isDown(t, "Sync", d, base())
	}
}

func TestArmTwice(t *testing.T) {
	for first := 1; first <= 5; first++ {
		for second := 1; second <= 5; second++ {
			for between := range first {
				d := disk(t, base()...)
				same(t, "Arm", d.Arm(first), api.OK)
				quiet(t, d, between)
				same(t, "Arm again", d.Arm(second), api.OK)
				quiet(t, d, second-1)
				same(t, "Remove", d.Remove("b"), api.Down)
				isDown(t, "Remove", d, base())
				quiet(t, d, 6)
			}
		}
	}
}

func TestNotArmed(t *testing.T) {
	d := disk(t, base()...)
	quiet(t, d, 3000)
	same(t, "whether it is down", d.Down(), false)
	looks(t, "behind it", d, base()...)
}

// --- P1502: a disk that is down

func TestDown(t *testing.T) {
	d := disk(t, base()...)
	d.Arm(1)
	same(t, "Append that goes down", d.Append("c", []byte("xy")), api.Down)
	want := append(base(), held{"c", "", "xy"})
	for range 3 {
		for _, c := range allCounted() {
			same(t, c.what+" of a disk that is down", c.do(d), api.Down)
		}
		for _, name := range []string{"a", "b", "c", "none", ""} {
			refused(t, "Read of a disk that is down", d, name, api.Down)
		}
		for _, n := range []int{math.MinInt, 0, 1, math.MaxInt} {
			same(t, "Arm of a disk that is down", d.Arm(n), api.Down)
		}
		same(t, "whether it is down", d.Down(), true)
		looks(t, "a disk that is down", d, want...)
	}
	same(t, "Loose of no file", d.Loose("none"), 0)
	same(t, "Has no file", d.Has("none"), false)
	isDown(t, "behind all of them", d, want)
	quiet(t, d, 10)
}

func TestDownAgain(t *testing.T) {
	d := New()
	want := ""
	for n := 1; n <= 6; n++ {
		same(t, "Arm", d.Arm(n), api.OK)
		for i := range n {
			fault := d.Append("a", []byte("xyz"))
			same(t, "Append", fault == api.Down, i == n-1)
		}
		d.Crash(2) // just the 3n bytes of this round are loose
		want += strings.Repeat("xyz", n)[:2]
		looks(t, "behind a crash", d, held{"a", want, ""})
	}
}

// --- P1502: Crash

func TestCrashByKeep(t *testing.T) {
	for _, c := range []struct {
		loose int
		keeps []int
		stays []int
	}{
		{0, []int{math.MinInt, -1, 0, 1, 2, 3, 100, math.MaxInt}, []int{0, 0, 0, 0, 0, 0, 0, 0}},
		{1, []int{math.MinInt, -1, 0, 1, 2, 3, 100, math.MaxInt}, []int{0, 0, 0, 1, 0, 1, 0, 1}},
		{2, []int{math.MinInt, -1, 0, 1, 2, 3, 100, math.MaxInt}, []int{0, 0, 0, 1, 2, 0, 1, 1}},
		{3, []int{-5, -4, -3, -2, -1, 0, 1, 2, 3, 4, 5, 6, 7, 8, math.MaxInt}, []int{0, 0, 0, 0, 0, 0, 1, 2, 3, 0, 1, 2, 3, 0, 3}},
		{6, []int{math.MinInt, math.MinInt + 1, -8, -7, -6, -1, 0, 5, 6, 7, 8, 13, 14, math.MaxInt - 1, math.MaxInt}, []int{0, 0, 0, 0, 0, 0, 0, 5, 6, 0, 1, 6, 0, 6, 0}},
		{7, []int{math.MinInt, -8, -1, 0, 1, 6, 7, 8, 9, 15, 16, math.MaxInt}, []int{0, 0, 0, 0, 1, 6, 7, 0, 1, 7, 0, 7}},
	} {
		for i, keep := range c.keeps {
			for _, first := range []string{"", "safe"} {
				loose := "abcdefg"[:c.loose]
				d := disk(t, held{"a", first, loose})
				d.Crash(keep)
				what := strconv.Itoa(c.loose) + " loose bytes, keep " + strconv.Itoa(keep)
				looks(t, what, d, held{"a", first + loose[:c.stays[i]], ""})
			}
		}
	}
}

// TestCrashOfSeveralFiles: of each file keep is told anew, by its own loose bytes.
func TestCrashOfSeveralFiles(t *testing.T) {
	files := []held{{"a", "", ""}, {"b", "12", "3"}, {"c", "", "12"}, {"d", "1", "234"}, {"e", "12345", ""}, {"f", "", "1234"}}
	for keep, stays := range map[int][6]int{
		-1: {}, 0: {}, 1: {0, 1, 1, 1, 0, 1}, 2: {0, 0, 2, 2, 0, 2}, 3: {0, 1, 0, 3, 0, 3}, 4: {0, 0, 1, 0, 0, 4}, 5: {0, 1, 2, 1, 0, 0},
		59: {0, 1, 2, 3, 0, 4}, 60: {}, whole: {0, 1, 2, 3, 0, 4}, math.MinInt: {}, math.MaxInt: {0, 1, 1, 3, 0, 2},
	} {
		for _, fell := range []bool{false, true} {
			d := disk(t, files...)
			if fell {
				d.Arm(1)
				same(t, "Append", d.Append("e", nil), api.Down)
			}
			d.Crash(keep)
			var want []held
			for i, f := range files {
				want = append(want, held{f.name, f.safe + f.loose[:stays[i]], ""})
			}
			looks(t, "keep "+strconv.Itoa(keep), d, want...)
		}
	}
}

func TestCrashMakesAllSafe(t *testing.T) {
	for keep := -2; keep <= 6; keep++ {
		d := disk(t, base()...)
		d.Crash(keep)
		var want []held
		for _, name := range d.Names() {
			b, _ := d.Read(name)
			want = append(want, held{name, string(b), ""})
		}
		for _, again := range []int{0, -1, 1, math.MaxInt, math.MinInt} {
			d.Crash(again)
			looks(t, "behind another crash", d, want...)
		}
	}
}

// TestCrashOfEachKind: one that is down, armed, neither, and empty: behind it none is down or armed.
func TestCrashOfEachKind(t *testing.T) {
	for _, files := range [][]held{base(), nil} {
		for _, ready := range []func(d *Disk){
			func(d *Disk) {},
			func(d *Disk) { d.Arm(1) },
			func(d *Disk) { d.Arm(2) },
			func(d *Disk) { d.Arm(3); d.Rename("a", "a") },
			func(d *Disk) { d.Arm(1); d.Rename("a", "a") },
			func(d *Disk) { d.Crash(whole) },
		} {
			d := disk(t, files...)
			ready(d)
			d.Crash(whole)
			same(t, "whether it is down", d.Down(), false)
			looks(t, "behind it", d, safe(files)...)
			for range 5 {
				same(t, "Append", d.Append("z", nil), api.OK)
			}
			same(t, "Arm", d.Arm(2), api.OK)
			same(t, "Append as the first", d.Append("z", nil), api.OK)
			same(t, "Append as the second", d.Append("z", nil), api.Down)
		}
	}
}

func TestCrashOfAFullFile(t *testing.T) {
	most := full()
	for keep, stays := range map[int]int{0: 0, 1: 1, api.MaxFile - 1: api.MaxFile - 1, api.MaxFile: api.MaxFile, api.MaxFile + 1: 0, api.MaxFile + 2: 1} {
		d := New()
		d.Append("a", most)
		d.Crash(keep)
		looks(t, "keep "+strconv.Itoa(keep), d, held{"a", string(most[:stays]), ""})
	}
}

// TestAppendBehindACrash: what was lost does not come back, nor does a new Append change what was read.
func TestAppendBehindACrash(t *testing.T) {
	d := disk(t, held{"a", "ab", "cdefgh"})
	d.Crash(3)
	same(t, "Append of no bytes", d.Append("a", nil), api.OK)
	looks(t, "behind it", d, held{"a", "abcde", ""})
	read, _ := d.Read("a")
	same(t, "Append", d.Append("a", []byte("X")), api.OK)
	looks(t, "behind it", d, held{"a", "abcde", "X"})
	d.Crash(1)
	looks(t, "behind it", d, held{"a", "abcdeX", ""})
	same(t, "what was read", string(read), "abcde")
}
