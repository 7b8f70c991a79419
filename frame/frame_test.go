package frame

import (
	"bytes"
	"encoding/binary"
	"hash/crc32"
	"math"
	"slices"
	"testing"

	"ossuary/api"
)

// same fails the test where got is not what the chapter says.
func same[T comparable](t *testing.T, what string, got, want T) {
	t.Helper()
	if got != want {
		t.Errorf("%s: %v, not %v", what, got, want)
	}
}

// sameBytes: likewise, of bytes.
func sameBytes(t *testing.T, what string, got, want []byte) {
	t.Helper()
	if !bytes.Equal(got, want) {
		t.Errorf("%s: %s, not %s", what, brief(got), brief(want))
	}
}

// brief: b, or where it is long, its begin, so that a failure can be read.
func brief(b []byte) string {
	const hex = "0123456789ABCDEF"
	text := ""
	for _, x := range b[:min(len(b), 40)] {
		text += string([]byte{hex[x>>4], hex[x&15], ' '})
	}
	return text
}

// wild: n bytes without a pattern, the same ones in each run.
func wild(n int) []byte {
	b := make([]byte, n)
	x := uint32(n) + 1
	for i := range b {
		x = x*1664525 + 1013904223
		b[i] = byte(x >> 24)
	}
	return b
}

// roomy: b with spare room behind it, and all that memory, to see whether any of it changes.
func roomy(b []byte) ([]byte, []byte) {
	all := append(append([]byte(nil), b...), bytes.Repeat([]byte{0xA5}, 16)...)
	return all[:len(b)], all
}

// framed is p's frame as the chapter's words have it, reckoned another way than by Put.
func framed(p []byte) []byte {
	b := binary.AppendUvarint(nil, uint64(len(p)))
	return binary.LittleEndian.AppendUint32(append(b, p...), crc32.ChecksumIEEE(p))
}

// lengths: of payloads, those at which the Num's count of bytes changes among them, and those beside them.
func lengths() []int {
	return []int{0, 1, 2, 9, 63, 126, 127, 128, 129, 255, 256, 1000, 16382, 16383, 16384, 16385}
}

// item: what Each tells of a frame.
type item struct {
	at      int
	payload []byte
}

// gather: all that Each tells of b.
func gather(b []byte) []item {
	var l []item
	for at, p := range Each(b) {
		l = append(l, item{at, p})
	}
	return l
}

// sameItems fails the test where Each or Whole of b tells other frames than those of payloads, laid one behind the other.
func sameItems(t *testing.T, what string, b []byte, payloads [][]byte) {
	t.Helper()
	got := gather(b)
	at := 0
	for i, p := range payloads {
		if i < len(got) {
			same(t, what+": place", got[i].at, at)
			sameBytes(t, what+": payload", got[i].payload, p)
		}
		at += len(framed(p))
	}
	same(t, what+": how many frames", len(got), len(payloads))
	same(t, what+": Whole", Whole(b), at)
}

// stream: the frames of payloads, and where each one ends.
func stream(payloads [][]byte) ([]byte, []int) {
	var b []byte
	var ends []int
	for _, p := range payloads {
		b = append(b, framed(p)...)
		ends = append(ends, len(b))
	}
	return b, ends
}

// some: payloads of several lengths, alike ones among them, and such as are frames themselves.
func some() [][]byte {
	return [][]byte{nil, wild(3), wild(3), nil, nil, wild(130), framed(nil), framed(wild(5)), make([]byte, 20), wild(1)}
}

// refused fails the test where Take hands out something of b, or names another fault.
func refused(t *testing.T, what string, b []byte, want api.Fault) {
	t.Helper()
	p, n, fault := Take(b)
	same(t, what+": Fault", fault, want)
	same(t, what+": how many bytes", n, 0)
	if p != nil {
		t.Errorf("%s: a payload beside a fault: %s", what, brief(p))
	}
}

// taken fails the test where Take of b is not p and n bytes.
func taken(t *testing.T, what string, b, p []byte, n int) {
	t.Helper()
	got, size, fault := Take(b)
	same(t, what+": Fault", fault, api.OK)
	same(t, what+": how many bytes", size, n)
	sameBytes(t, what+": payload", got, p)
}

// --- P301: Put

func TestPutOfWhatIsKnown(t *testing.T) {
	for _, c := range []struct{ payload, want string }{
		{"", "\x00\x00\x00\x00\x00"},
		{"123456789", "\x09123456789\x26\x39\xF4\xCB"},
		{"a", "\x01a\x43\xBE\xB7\xE8"},
		{"\x00", "\x01\x00\x8D\xEF\x02\xD2"},
		{"\xff\xff\xff\xff", "\x04\xff\xff\xff\xff\xff\xff\xff\xff"},
	} {
		sameBytes(t, "Put", Put([]byte(c.payload)), []byte(c.want))
	}
	sameBytes(t, "Put of nil", Put(nil), make([]byte, 5))
}

func TestPutOfEachLength(t *testing.T) {
	for _, n := range lengths() {
		sameBytes(t, "Put", Put(wild(n)), framed(wild(n)))
	}
	sameBytes(t, "begin of Put of 300 bytes", Put(wild(300))[:2], []byte{0xAC, 2})
}

func TestPutOfManyBytesIsStillAFrame(t *testing.T) {
	for _, n := range []int{api.MaxFile, api.MaxFile + 1} {
		sameBytes(t, "Put", Put(wild(n)), framed(wild(n)))
	}
}

func TestPutHandsOutNewMemory(t *testing.T) {
	p, all := roomy([]byte("abc"))
	before := bytes.Clone(all)
	b := Put(p)
	for i := range b {
		b[i] ^= 0xFF
	}
	_ = append(b, 7)
	sameBytes(t, "what was handed in, and its spare room", all, before)
	again := Put(p)
	p[0] = 'x'
	sameBytes(t, "Put, behind a change of what was handed in", again, framed([]byte("abc")))
	none, other := Put(nil), Put(nil)
	none[0] = 9
	sameBytes(t, "Put of no bytes, behind a change of another one", other, make([]byte, 5))
}

// --- P301: Take

func TestTakeOfWhatWasPut(t *testing.T) {
	for _, n := range lengths() {
		p := wild(n)
		b := framed(p)
		taken(t, "a frame", b, p, len(b))
		taken(t, "a frame that Put made", Put(p), p, len(b))
		taken(t, "a frame with bytes behind it", append(slices.Clip(b), wild(20)...), p, len(b))
		taken(t, "a frame with another one behind it", append(slices.Clip(b), b...), p, len(b))
	}
	taken(t, "four bytes 00 too many", make([]byte, 9), nil, 5)
}

func TestTakeOfAWrongNum(t *testing.T) {
	high := bytes.Repeat([]byte{0x80}, 9)
	ones := bytes.Repeat([]byte{0xFF}, 9)
	room := make([]byte, 40)
	join := func(l ...[]byte) []byte { return slices.Concat(l...) }
	for _, c := range []struct {
		what  string
		bytes []byte
		fault api.Fault
	}{
		{"nil", nil, api.Truncated},
		{"no bytes", []byte{}, api.Truncated},
		{"one byte, and it goes on", []byte{0x80}, api.Truncated},
		{"two bytes, and it goes on", []byte{0xFF, 0x80}, api.Truncated},
		{"nine bytes, and it goes on", high, api.Truncated},
		{"0 in two bytes", join([]byte{0x80, 0}, room), api.Malformed},
		{"0 in two bytes, nothing behind", []byte{0x80, 0}, api.Malformed},
		{"1 in two bytes, as a frame", join([]byte{0x81, 0}, framed([]byte("a"))[1:]), api.Malformed},
		{"0 in three bytes", join([]byte{0x80, 0x80, 0}, room), api.Malformed},
		{"goes on behind the tenth byte", join(high, []byte{0x80, 1}, room), api.Malformed},
		{"goes on behind the tenth byte, to none", join(high, []byte{0x80}), api.Malformed},
		{"tenth byte 0", join(high, []byte{0}, room), api.Malformed},
		{"2^64", join(high, []byte{2}, room), api.Malformed},
		{"2^64 - 1", join(ones, []byte{1}, room), api.Malformed},
		{"2^64 - 1, nothing behind", join(ones, []byte{1}), api.Malformed},
		{"2^63, no int", join(high, []byte{1}, room), api.Malformed},
		{"2^63 - 1, the greatest int", join(ones[:8], []byte{0x7F}, room), api.Malformed},
		{"2^63 - 4, an int but not with its check", join([]byte{0xFC}, ones[:7], []byte{0x7F}, room), api.Malformed},
	} {
		refused(t, c.what, c.bytes, c.fault)
	}
}

func TestTakeOfTheLongestPayload(t *testing.T) {
	longest := wild(api.MaxFile)
	b := framed(longest)
	taken(t, "MaxFile bytes", b, longest, api.MaxFile+8)
	refused(t, "MaxFile bytes, cut by one", b[:len(b)-1], api.Truncated)
	refused(t, "MaxFile bytes, but for the Num none there", b[:4], api.Truncated)
	b[len(b)-1] ^= 1
	refused(t, "MaxFile bytes, another check", b, api.BadSum)
	long := framed(wild(api.MaxFile + 1))
	refused(t, "a byte more", long, api.Malformed)
	refused(t, "a byte more, cut by one", long[:len(long)-1], api.Malformed)
	refused(t, "a byte more, but for the Num none there", long[:4], api.Malformed)
	refused(t, "a byte more, half a Num", long[:3], api.Truncated)
	long[len(long)-1] ^= 1
	refused(t, "a byte more, another check", long, api.Malformed)
}

func TestTakeOfTooFewBytes(t *testing.T) {
	for _, n := range []int{0, 1, 5, 127, 128, 300} {
		b := framed(wild(n))
		for i := range b {
			refused(t, "cut", b[:i], api.Truncated)
			refused(t, "cut, its room clipped", slices.Clone(b[:i]), api.Truncated)
		}
	}
	refused(t, "cut, and another check", []byte{9, 7}, api.Truncated)
	refused(t, "the payload alone", []byte{2, 'a', 'b'}, api.Truncated)
	refused(t, "the payload and three bytes", []byte{2, 'a', 'b', 1, 2, 3}, api.Truncated)
}

func TestTakeOfAnotherCheck(t *testing.T) {
	for what, text := range map[string]string{
		"no check":                   "\x01\x07\x00\x00\x00\x00",
		"no bytes, all bits 1":       "\x00\xff\xff\xff\xff",
		"highest byte first":         "\x09123456789\xCB\xF4\x39\x26",
		"bits turned":                "\x09123456789\xD9\xC6\x0B\x34",
		"check of other bytes":       "\x01b\x43\xBE\xB7\xE8",
		"another check, frame to go": "\x00\x00\x00\x00\x01\x00\x00\x00\x00\x00",
	} {
		refused(t, what, []byte(text), api.BadSum)
	}
	for _, n := range []int{0, 1, 9, 130} {
		b := framed(wild(n))
		from := len(b) - n - 4
		all := binary.LittleEndian.AppendUint32(bytes.Clone(b[:from+n]), crc32.ChecksumIEEE(b[:from+n]))
		refused(t, "check of Num and payload", all, api.BadSum)
		for i := 8 * from; i < 8*len(b); i++ {
			b[i/8] ^= 1 << (i % 8)
			refused(t, "one bit changed", b, api.BadSum)
			b[i/8] ^= 1 << (i % 8)
		}
	}
}

func TestTakeHandsOutNewMemory(t *testing.T) {
	b, all := roomy(framed([]byte("abc")))
	before := bytes.Clone(all)
	p, _, fault := Take(b)
	same(t, "Fault", fault, api.OK)
	for i := range p {
		p[i] ^= 0xFF
	}
	_ = append(p, "xxxxxxxx"...)
	sameBytes(t, "what was handed in, and its spare room", all, before)
	again, _, _ := Take(b)
	b[1] = 'x'
	sameBytes(t, "Take, behind a change of what was handed in", again, []byte("abc"))
}

// --- P301: Size

func TestSizeOfWhatIsKnown(t *testing.T) {
	for _, c := range []struct{ n, want int }{
		{0, 5}, {1, 6}, {127, 132}, {128, 134}, {200, 206}, {16383, 16389}, {16384, 16391},
		{1<<21 - 1, 1<<21 + 6}, {1 << 21, 1<<21 + 8},
		{api.MaxFile, api.MaxFile + 8}, {api.MaxFile + 1, api.MaxFile + 9},
		{1<<28 - 1, 1<<28 + 7}, {1 << 28, 1<<28 + 9},
		{-1, 5}, {-5, 5}, {-200, 5}, {math.MinInt, 5}, {math.MinInt + 1, 5},
	} {
		same(t, "Size", Size(c.n), c.want)
	}
}

func TestSizeIsHowManyBytesPutMakes(t *testing.T) {
	for _, n := range append(lengths(), 1<<21-1, 1<<21, api.MaxFile, api.MaxFile+1) {
		same(t, "Size", Size(n), len(Put(make([]byte, n))))
	}
}

func TestSizeOfNumbersNoPayloadHas(t *testing.T) {
	for i := range 62 {
		for _, n := range []int{1<<i - 1, 1 << i, 1<<i + 1} {
			same(t, "Size", Size(n), n+4+len(binary.AppendUvarint(nil, uint64(n))))
		}
	}
	same(t, "the greatest n of which the size is an int", Size(math.MaxInt-13), math.MaxInt)
	same(t, "one less", Size(math.MaxInt-14), math.MaxInt-1)
	for i := range 13 {
		same(t, "the size would leave its range", Size(math.MaxInt-i), math.MaxInt)
	}
}

// --- P302

func TestEachOfFrames(t *testing.T) {
	var payloads [][]byte
	sameItems(t, "nil", nil, nil)
	sameItems(t, "no bytes", []byte{}, nil)
	for _, p := range some() {
		payloads = append(payloads, p)
		b, _ := stream(payloads)
		sameItems(t, "frames", b, payloads)
		sameItems(t, "frames, and half a one", append(b, framed(wild(9))[:7]...), payloads)
	}
}

func TestEachOfMoreThanOneLongFrame(t *testing.T) {
	payloads := [][]byte{wild(40000), nil, wild(api.MaxFile), wild(2)}
	b, ends := stream(payloads)
	sameItems(t, "long frames", b, payloads)
	same(t, "their bytes", Whole(b), ends[3])
}

func TestEachOfMoreBytesThanMaxFile(t *testing.T) {
	payloads := make([][]byte, 0, 70)
	for i := range cap(payloads) {
		payloads = append(payloads, wild(api.MaxFile/64+i))
	}
	b, _ := stream(payloads)
	sameItems(t, "only a payload is bounded", b, payloads)
}

func TestEachEndsAtTheFirstThatIsNone(t *testing.T) {
	ahead := [][]byte{wild(3), nil, wild(7)}
	behind, _ := stream([][]byte{wild(4), nil})
	swapped := framed(wild(6))
	swapped[1], swapped[2] = swapped[2], swapped[1]
	for what, none := range map[string][]byte{
		"a Num not as short as can be": {0x80, 0, 0, 0, 0, 0},
		"a Num above MaxFile":          framed(wild(api.MaxFile + 1)),
		"a Num above 64 bits":          append(bytes.Repeat([]byte{0xFF}, 9), 2),
		"another check":                {0, 1, 0, 0, 0},
		"another payload":              swapped,
		"a byte too many":              {9},
	} {
		b, _ := stream(ahead)
		b = append(b, none...)
		sameItems(t, what, b, ahead)
		sameItems(t, what+", frames behind it", append(b, behind...), ahead)
		sameItems(t, what+" at first", none, nil)
		sameItems(t, what+" at first, frames behind it", append(slices.Clip(none), behind...), nil)
	}
}

func TestEachTellsNoMoreThanIsAsked(t *testing.T) {
	b, _ := stream(some())
	all := gather(b)
	for most := range len(all) + 2 {
		var got []item
		calls := 0
		Each(b)(func(at int, p []byte) bool {
			calls++
			if calls > most {
				return false
			}
			got = append(got, item{at, p})
			return true
		})
		same(t, "calls", calls, min(most+1, len(all)))
		same(t, "frames", len(got), min(most, len(all)))
		for i, x := range got {
			same(t, "place", x.at, all[i].at)
			sameBytes(t, "payload", x.payload, all[i].payload)
		}
	}
}

func TestEachOfFewerThanThereAre(t *testing.T) {
	b, ends := stream([][]byte{wild(3), nil, wild(7)})
	last := -1
	for at := range Each(b) {
		if last = at; at >= ends[0] {
			break
		}
	}
	same(t, "place of the last that was asked for", last, ends[0])
}

func TestEachMayBeAskedAgain(t *testing.T) {
	b, _ := stream(some())
	frames := Each(b)
	for range frames {
		break
	}
	for range 2 {
		count := 0
		for at, p := range frames {
			same(t, "place", at, gather(b)[count].at)
			sameBytes(t, "payload", p, some()[count])
			for i := range p {
				p[i] ^= 0xFF
			}
			_ = append(p, "xxxxxxxx"...)
			count++
		}
		same(t, "frames", count, len(some()))
	}
	for range frames {
		inner := 0
		for range frames {
			inner++
		}
		same(t, "frames, asked within", inner, len(some()))
	}
}

func TestEachAndWholeChangeNothing(t *testing.T) {
	text, _ := stream(some())
	b, all := roomy(append(text, 9))
	before := bytes.Clone(all)
	Whole(b)
	for _, p := range Each(b) {
		for i := range p {
			p[i] ^= 0xFF
		}
		_ = append(p, "xxxxxxxx"...)
	}
	sameBytes(t, "what was handed in, and its spare room", all, before)
}

func TestEachTellsWhatItWasGiven(t *testing.T) {
	text, _ := stream(some())
	b := slices.Clone(text)
	frames := Each(b)
	b[0] = 0xFF
	count := 0
	for at, p := range frames {
		same(t, "place", at, gather(text)[count].at)
		sameBytes(t, "payload, behind a change of what was handed in", p, some()[count])
		clear(b)
		count++
	}
	same(t, "frames, behind a change of what was handed in", count, len(some()))
}

func TestWholeOfWhatIsNoFrame(t *testing.T) {
	for _, b := range [][]byte{nil, {}, {9}, {0, 0, 0, 0}, {1, 7, 0, 0, 0, 0}, {0x80, 0, 0, 0, 0, 0}} {
		same(t, "Whole", Whole(b), 0)
	}
	same(t, "Whole of no payload", Whole(make([]byte, 5)), 5)
	same(t, "Whole of no payload, four bytes behind", Whole(make([]byte, 9)), 5)
	same(t, "Whole of no payload, twice", Whole(make([]byte, 10)), 10)
}

// --- P303

func TestFramesCutAnywhere(t *testing.T) {
	payloads := some()
	b, ends := stream(payloads)
	for cut := range len(b) + 1 {
		whole := 0
		for whole < len(ends) && ends[whole] <= cut {
			whole++
		}
		sameItems(t, "cut, with room behind", b[:cut], payloads[:whole])
		sameItems(t, "cut", slices.Clone(b[:cut]), payloads[:whole])
	}
}

func TestFramesWithOneByteChanged(t *testing.T) {
	payloads := some()
	b, ends := stream(payloads)
	for at := range b {
		ahead := 0
		for ends[ahead] <= at {
			ahead++
		}
		for _, turn := range []byte{1, 0x10, 0x80} {
			b[at] ^= turn
			sameItems(t, "one bit changed", b, payloads[:ahead])
			b[at] ^= turn
		}
	}
}

// Whatever bytes of these there are: what is taken as a frame is put so again, so that no payload has two texts of bytes.
func TestNoPayloadIsTakenFromOtherBytesThanItsFrame(t *testing.T) {
	var try func(b []byte, left int)
	try = func(b []byte, left int) {
		p, n, fault := Take(b)
		if fault == api.OK {
			sameBytes(t, "taken and framed", framed(p), b[:n])
		} else {
			refused(t, "no frame", b, fault)
		}
		if left == 0 {
			return
		}
		for _, next := range []byte{0, 1, 'a', 0x80, 0xE8, 0xFF} {
			try(append(b[:len(b):len(b)], next), left-1)
		}
	}
	try(nil, 6)
	try([]byte("\x01a\x43\xBE\xB7"), 4)
}
