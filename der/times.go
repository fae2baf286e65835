package der

const (
	shortTime = len("YYMMDDHHMMSSZ")
	longTime  = len("YYYYMMDDHHMMSSZ")
)

func isShortTime(b []byte) bool {
	if len(b) != shortTime {
		return false
	}
	year, ok := digits(b[:2])
	if year < 50 {
		year += 100
	}
	return ok && isMoment(1900+year, b[2:])
}

func isLongTime(b []byte) bool {
	if len(b) != longTime {
		return false
	}
	year, ok := digits(b[:4])
	return ok && isMoment(year, b[4:])
}

// isMoment tells whether MMDDHHMMSSZ is a time of that year.
func isMoment(year int, b []byte) bool {
	var parts [5]int
	for i := range parts {
		n, ok := digits(b[2*i : 2*i+2])
		if !ok {
			return false
		}
		parts[i] = n
	}
	month, day := parts[0], parts[1]
	return 1 <= month && month <= 12 && 1 <= day && day <= days(year, month) &&
		parts[2] < 24 && parts[3] < 60 && parts[4] < 60 && b[10] == 'Z'
}

// days is how many days a month has.
func days(year, month int) int {
	switch month {
	case 4, 6, 9, 11:
		return 30
	case 2:
		if year%4 == 0 && (year%100 != 0 || year%400 == 0) {
			return 29
		}
		return 28
	}
	return 31
}

// digits is the number that b is in decimal digits, and whether it is one.
func digits(b []byte) (int, bool) {
	n := 0
	for _, c := range b {
		if c < '0' || c > '9' {
			return 0, false
		}
		n = 10*n + int(c-'0')
	}
	return n, true
}
