package name

import (
	"chancery/api"
	"chancery/der"
)

const (
	firstYear  = 1970
	longYear   = 2050 // from here on a time is a long one
	daySeconds = 24 * 60 * 60
)

// A moment is the numbers of YYYYMMDDHHMMSS, two digits each.
type moment [7]int

// Time reads a time.
func Time(v der.Value) (int, api.Errno) {
	short := isUniversal(v, tagShortTime)
	if !short && !isUniversal(v, tagLongTime) || !isRight(v) {
		return 0, api.ErrForm
	}
	text := string(v.Bytes)
	if short {
		text = centuryOf(text) + text
	}
	m := momentOf(text)
	year := 100*m[0] + m[1]
	if year < firstYear || !short && year < longYear {
		return 0, api.ErrTime
	}
	day := daysTo(year, m[2]) + m[3] - 1
	return day*daySeconds + (m[4]*60+m[5])*60 + m[6], api.OK
}

// TimeValue writes a time.
func TimeValue(t int) (der.Value, api.Errno) {
	if t < 0 || t > api.MaxTime {
		return der.Value{}, api.ErrTime
	}
	year, month, day := dateOf(t / daySeconds)
	second := t % daySeconds
	m := moment{year / 100, year % 100, month, day, second / 3600, second / 60 % 60, second % 60}
	if year < longYear {
		return der.Value{Tag: tagShortTime, Bytes: timeBytes(m[1:])}, api.OK
	}
	return der.Value{Tag: tagLongTime, Bytes: timeBytes(m[:])}, api.OK
}

// centuryOf is what a short time leaves out.
func centuryOf(text string) string {
	if text < "50" {
		return "20"
	}
	return "19"
}

func momentOf(text string) moment {
	var m moment
	for i := range m {
		m[i] = 10*int(text[2*i]-'0') + int(text[2*i+1]-'0')
	}
	return m
}

func timeBytes(numbers []int) []byte {
	var b []byte
	for _, n := range numbers {
		b = append(b, byte('0'+n/10), byte('0'+n%10))
	}
	return append(b, 'Z')
}

// dateOf is the day that so many days are ahead of, counted from the beginning of 1970 on.
func dateOf(days int) (year, month, day int) {
	// As no year has more than 366 days, this one isn't too late.
	year, month = firstYear+days/366, 1
	for daysTo(year+1, 1) <= days {
		year++
	}
	for daysTo(year, month+1) <= days {
		month++
	}
	return year, month, days - daysTo(year, month) + 1
}

// daysTo is how many days there are from the beginning of 1970 to that of a month. The month 13 is the next year's first.
func daysTo(year, month int) int {
	days := 365*(year-firstYear) + leapsTo(year) - leapsTo(firstYear)
	for m := 1; m < month; m++ {
		days += daysIn(year, m)
	}
	return days
}

// leapsTo is how many leap years there are ahead of a year.
func leapsTo(year int) int {
	last := year - 1
	return last/4 - last/100 + last/400
}

// daysIn is how many days a month has.
func daysIn(year, month int) int {
	switch month {
	case 4, 6, 9, 11:
		return 30
	case 2:
		return 28 + leapsTo(year+1) - leapsTo(year)
	}
	return 31
}
