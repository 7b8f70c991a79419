package civil

import "ossuary/api"

const (
	form   = "0000-00-00T00" // of a text: its marks, and digits where this has 0
	fields = 4               // numbers of a text: year, month, day, hour of the day
)

// Text: an hour as text; "", if it is not from 0 to MaxHour.
func Text(hour int64) string {
	if hour < 0 || hour > api.MaxHour {
		return ""
	}
	text := []byte(form)
	put := func(n int64, from, below int) {
		for at := below - 1; at >= from; at-- {
			text[at] += byte(n % 10)
			n /= 10
		}
	}
	day, rest := split(hour, dayHours)
	year, month, of := Date(day)
	put(year, 0, 4)
	put(int64(month), 5, 7)
	put(int64(of), 8, 10)
	put(rest, 11, 13)
	return string(text)
}

// Parse: the hour whose text s is; false: there is none.
func Parse(s string) (int64, bool) {
	l, ok := numbers(s)
	if !ok {
		return 0, false
	}
	day, ok := Number(l[0], int(l[1]), int(l[2]))
	if !ok || l[3] >= dayHours {
		return 0, false
	}
	hour := dayHours*day + l[3]
	if hour > api.MaxHour {
		return 0, false
	}
	return hour, true
}

// numbers: those of a text that has form's marks and digits.
func numbers(s string) ([fields]int64, bool) {
	var l [fields]int64
	if len(s) != len(form) {
		return l, false
	}
	right, field := 0, 0
places:
	for at := range len(form) {
		digit := form[at] == '0'
		switch {
		case digit && '0' <= s[at] && s[at] <= '9':
			l[field] = 10*l[field] + int64(s[at]-'0')
		case !digit && s[at] == form[at]:
			field++
		default:
			break places
		}
		right++
	}
	return l, right == len(form)
}
