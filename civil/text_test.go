package civil

import (
	"math"
	"strings"
	"testing"
	"time"

	"ossuary/api"
)

const lastText = "3883-12-08T16" // of MaxHour

// written: an hour's text as package time has it.
func written(hour int64) string {
	return time.Unix(3600*hour, 0).UTC().Format("2006-01-02T15")
}

// readBack: the hour whose text s is, as package time has it.
func readBack(s string) (int64, bool) {
	at, err := time.Parse("2006-01-02T15", s)
	hour := at.Unix() / 3600
	if err != nil || hour < 0 || hour > api.MaxHour || written(hour) != s {
		return 0, false
	}
	return hour, true
}

// none fails the test where s is taken for an hour's text.
func none(t *testing.T, what, s string) {
	t.Helper()
	if hour, ok := Parse(s); ok || hour != 0 {
		t.Errorf("%s: Parse of %q: %d, %v", what, s, hour, ok)
	}
}

// known: hours and their texts.
func known() map[int64]string {
	return map[int64]string{
		0: "1970-01-01T00", 1: "1970-01-01T01", 9: "1970-01-01T09", 10: "1970-01-01T10", 23: "1970-01-01T23", 24: "1970-01-02T00", 25: "1970-01-02T01",
		24*31 - 1: "1970-01-31T23", 24 * 31: "1970-02-01T00", 24*59 + 23: "1970-03-01T23", 24 * 365: "1971-01-01T00", 24*365 - 1: "1970-12-31T23",
		24*789 + 12: "1972-02-29T12", 24*11016 + 7: "2000-02-29T07", 24*11322 + 23: "2000-12-31T23", 24*47541 - 1: "2100-02-28T23", 24 * 47541: "2100-03-01T00",
		api.MaxHour: lastText, api.MaxHour - 1: "3883-12-08T15", api.MaxHour - 16: "3883-12-08T00", api.MaxHour - 17: "3883-12-07T23",
	}
}

// --- P403

func TestTextAndParseOfWhatIsKnown(t *testing.T) {
	for hour, text := range known() {
		same(t, "Text", Text(hour), text)
		got, ok := Parse(text)
		same(t, "Parse of "+text, got, hour)
		same(t, "Parse of "+text+": is there one", ok, true)
	}
}

func TestTextOfNoHour(t *testing.T) {
	for _, hour := range []int64{-1, -24, api.MaxHour + 1, api.MaxHour + 24, math.MinInt64, math.MaxInt64} {
		same(t, "Text", Text(hour), "")
	}
}

func TestParseOfAnotherLength(t *testing.T) {
	for _, s := range []string{
		"", "1", "T", "1970", "1970-01-01", "1970-01-01T", "1970-01-01T0", "1970-01-01T000", "1970-01-01T0 ", "1970-01-01T00\n", "1970-01-01T00\x00",
		" 1970-01-01T00", "01970-01-01T00", "11970-01-01T00", "970-01-01T00", "1970-1-01T00", "1970-01-1T00", "1970-001-01T00", "1970-01-01T00:00", "1970-01-01T00Z",
		"+1970-01-01T00", "-1970-01-01T00", strings.Repeat("1970-01-01T00", 2), strings.Repeat("0", 1<<16),
	} {
		none(t, "another length", s)
	}
	for at := range lastText {
		none(t, "begin", lastText[:at])
		none(t, "end", lastText[at+1:])
		none(t, "a place twice", lastText[:at+1]+lastText[at:])
	}
}

func TestParseOfOtherMarks(t *testing.T) {
	for _, s := range []string{
		"1970-01-01t00", "1970-01-01 00", "1970/01/01T00", "1970-01/01T00", "1970_01-01T00", "1970-01-01-00", "1970T01T01T00", "1970-01-01:00",
		"1970001-01T00", "1970-01001T00", "1970-01-01000", "01-01-1970T00", "T970-01-0100-", "1970–-01T00",
	} {
		none(t, "other marks", s)
	}
}

func TestParseOfNoDigits(t *testing.T) {
	for _, digits := range []string{"+1", "-1", " 1", "1 ", "a1", "1a", "0x", "1.", "1e", "1_", "/1", "1/", ":1", "1:", "\x001", "1\xff", "١"} {
		none(t, "hour", "1970-01-01T"+digits)
		none(t, "day", "1970-01-"+digits+"T00")
		none(t, "month", "1970-"+digits+"-01T00")
		none(t, "year's begin", digits+"70-01-01T00")
		none(t, "year's end", "19"+digits+"-01-01T00")
	}
}

func TestParseOfWhatThereIsNot(t *testing.T) {
	for _, s := range []string{
		"1970-00-01T00", "1970-13-01T00", "1970-99-01T00", "1970-01-00T00", "1970-01-32T00", "1970-01-99T00", "1970-04-31T00",
		"1970-02-29T00", "1971-02-29T00", "1972-02-30T00", "2000-02-30T00", "2100-02-29T00", "3800-02-29T00",
		"1970-01-01T24", "1970-01-01T25", "1970-01-01T30", "1970-01-01T99", "1972-02-29T24", "3883-12-07T24",
		"1969-12-31T23", "1969-01-01T00", "1968-02-29T00", "1600-01-01T00", "0000-01-01T00", "0000-00-00T00", "0001-01-01T00",
		"3883-12-08T17", "3883-12-08T23", "3883-12-08T24", "3883-12-09T00", "3883-12-31T23", "3884-01-01T00", "4000-01-01T00",
		"4840-11-26T00", "4899-12-31T23", "4900-12-31T23", "4901-01-01T00", "9999-12-31T23", "9999-99-99T99",
	} {
		none(t, "nothing there", s)
	}
}

func TestParseNextToTexts(t *testing.T) {
	taken := 0
	for _, text := range known() {
		for at := range text {
			for c := range 256 {
				s := text[:at] + string([]byte{byte(c)}) + text[at+1:]
				want, is := readBack(s)
				got, ok := Parse(s)
				if got != want || ok != is {
					t.Errorf("Parse of %q: %d, %v, not %d, %v", s, got, ok, want, is)
				}
				if ok {
					taken++
				}
			}
		}
	}
	if taken < 100 {
		t.Errorf("%d texts next to others are taken: too few to tell", taken)
	}
}

func TestParseOfEachFieldsDigits(t *testing.T) {
	for _, form := range []string{"1970-01-01T##", "1972-02-##T05", "2100-02-##T05", "1999-04-##T00", "2000-##-01T23", "2000-##-31T23", "19##-02-28T00", "##00-02-29T00", "38##-12-08T16", "38##-12-08T17"} {
		for n := range 100 {
			s := strings.Replace(form, "##", string([]byte{byte('0' + n/10), byte('0' + n%10)}), 1)
			want, is := readBack(s)
			got, ok := Parse(s)
			if got != want || ok != is {
				t.Errorf("Parse of %q: %d, %v, not %d, %v", s, got, ok, want, is)
			}
		}
	}
}

// --- P404

func TestWhatIsWrittenIsReadAsItWas(t *testing.T) {
	for hour := int64(0); hour <= api.MaxHour; hour++ {
		if hour > 1<<16 && hour < api.MaxHour-1<<16 && hour%7 > 0 { // each seventh of the rest: in seven days each hour of a day
			continue
		}
		text := Text(hour)
		if text != written(hour) {
			t.Fatalf("Text of %d: %s, not %s", hour, text, written(hour))
		}
		if got, ok := Parse(text); !ok || got != hour {
			t.Fatalf("Parse of %s: %d, %v, not %d", text, got, ok, hour)
		}
	}
}

func TestTextsRiseWithTheirHours(t *testing.T) {
	last := ""
	for hour := int64(0); hour <= api.MaxHour; hour += 11 {
		text := Text(hour)
		if text <= last {
			t.Fatalf("Text of %d: %s, behind %s", hour, text, last)
		}
		last = text
	}
}
