package der

import (
	"fmt"
	"strings"
	"testing"
	"time"
	"unicode/utf8"

	"chancery/api"
)

// right tells whether Read and Write take b for a universal value of the tag; they must say the same.
func right(t *testing.T, tag int, b []byte) bool {
	t.Helper()
	v := Value{Tag: tag, Bytes: b}
	_, e := Write(v)
	_, f := Read(append(slowHead(v, len(b)), b...))
	if e != f || e != api.OK && e != api.ErrValue {
		t.Fatalf("%d %x: %d written, %d read", tag, b, e, f)
	}
	return e == api.OK
}

// P9.4: the bytes of a printable value, and P9.1, P9.2: that they alone are right in one.
func TestPrintable(t *testing.T) {
	n := 0
	for c := range 256 {
		want := strings.IndexByte(slowPrintable, byte(c)) >= 0
		if Printable(byte(c)) != want {
			t.Errorf("%02x: %v", c, !want)
		}
		for _, b := range [][]byte{{byte(c)}, {'a', byte(c)}, {byte(c), 'a'}} {
			if right(t, 19, b) != want {
				t.Errorf("%x: %v", b, !want)
			}
		}
		if want {
			n++
		}
	}
	if n != 74 || !right(t, 19, nil) {
		t.Error(n)
	}
}

// P9.1, P9.2: each tag and form of a universal value.
func TestUniversalForms(t *testing.T) {
	for tag := range 300 {
		for _, made := range []bool{false, true} {
			v := Value{Tag: tag, Made: made}
			_, e := Write(v)
			_, f := Read(slowHead(v, 0))
			if (e == api.ErrTag) != !slowRow(tag, made) || (f == api.ErrTag) != !slowRow(tag, made) {
				t.Errorf("%d, %v: %d, %d", tag, made, e, f)
			}
		}
	}
}

// P9.1, P9.2: all universal values of at most two bytes, and of three that begin and end in all ways.
func TestUniversalShort(t *testing.T) {
	for _, tag := range []int{1, 2, 3, 4, 5, 6, 10, 12, 19, 22, 23, 24} {
		check := func(b ...byte) {
			if got := right(t, tag, b); got != slowRight(tag, b) {
				t.Fatalf("%d %x: %v", tag, b, got)
			}
		}
		check()
		for a := range 256 {
			check(byte(a))
			for b := range 256 {
				check(byte(a), byte(b))
				check(byte(a), 0x80, byte(b))
				check(byte(a), byte(b), 0)
			}
		}
	}
}

// P9.1, P9.2: the edges that the chapter's table names.
func TestUniversalEdges(t *testing.T) {
	for _, x := range []struct {
		tag  int
		in   string
		want bool
	}{
		{1, "00", true}, {1, "ff", true}, {1, "01", false}, {1, "fe", false}, {1, "", false}, {1, "0000", false}, {1, "ffff", false},
		{2, "", false}, {2, "00", true}, {2, "ff", true}, {2, "0080", true}, {2, "007f", false}, {2, "ff7f", true}, {2, "ff80", false}, {2, "0000", false}, {2, "ffff", false}, {2, "000080", false}, {2, "80" + strings.Repeat("00", 40), true},
		{10, "", false}, {10, "00", true}, {10, "0080", true}, {10, "007f", false}, {10, "ff7f", true}, {10, "ff80", false},
		{3, "", false}, {3, "00", true}, {3, "01", false}, {3, "07", false}, {3, "08", false}, {3, "0780", true}, {3, "0740", false}, {3, "0880", false}, {3, "0800", false}, {3, "0000", true}, {3, "00ff", true}, {3, "01fe", true}, {3, "01ff", false}, {3, "04ff10", true}, {3, "04ff08", false}, {3, "0700", true},
		{4, "", true}, {4, "00ff80", true},
		{5, "", true}, {5, "00", false},
		{6, "", false}, {6, "00", true}, {6, "7f", true}, {6, "80", false}, {6, "81", false}, {6, "8001", false}, {6, "8100", true}, {6, "2a8648", true}, {6, "2a86", false}, {6, "2a8001", false}, {6, "2a8180", false}, {6, "2a818000", true}, {6, "ffffffffffffffffffffffff7f", true},
		{12, "", true}, {12, "c3a9", true}, {12, "c3", false}, {12, "c080", false}, {12, "eda080", false}, {12, "efbfbd", true}, {12, "f48fbfbf", true}, {12, "f4908080", false}, {12, "00", true}, {12, "80", false},
		{19, "", true}, {19, "41", true}, {19, "2a", false}, {19, "40", false}, {19, "5f", false}, {19, "0a", false}, {19, "00", false}, {19, "c1", false},
		{22, "", true}, {22, "00", true}, {22, "7f", true}, {22, "80", false}, {22, "4180", false}, {22, "ff41", false},
	} {
		if right(t, x.tag, unhex(t, x.in)) != x.want {
			t.Errorf("%d %s: %v", x.tag, x.in, !x.want)
		}
	}
}

// P9.1, P9.2: UTF-8 as the library has it, at each rune's edge.
func TestUTF8(t *testing.T) {
	for _, r := range []rune{0, 0x7f, 0x80, 0x7ff, 0x800, 0xd7ff, 0xe000, 0xfffd, 0xffff, 0x10000, 0x10ffff} {
		b := utf8.AppendRune(nil, r)
		if !right(t, 12, b) || len(b) > 1 && (right(t, 12, b[:len(b)-1]) || right(t, 12, b[1:])) || right(t, 12, append(b, 0xbf)) {
			t.Errorf("%x", r)
		}
	}
}

// P9.1, P9.2: each month and day of some years, as the library's calendar has them.
func TestDays(t *testing.T) {
	for _, year := range []int{0, 4, 100, 1582, 1600, 1700, 1900, 1904, 1949, 1950, 1969, 1970, 1999, 2000, 2001, 2004, 2049, 2050, 2100, 2400, 9999} {
		for month := range 15 {
			for day := range 34 {
				at := time.Date(year, time.Month(month), day, 0, 0, 0, 0, time.UTC)
				want := at.Year() == year && int(at.Month()) == month && at.Day() == day
				long := fmt.Sprintf("%04d%02d%02d120000Z", year, month, day)
				if right(t, 24, []byte(long)) != want {
					t.Errorf("%s: %v", long, !want)
				}
				if year >= 1950 && year < 2050 && right(t, 23, []byte(long[2:])) != want {
					t.Errorf("%s: %v", long[2:], !want)
				}
			}
		}
	}
}

// P9.1, P9.2: hours, minutes and seconds.
func TestClock(t *testing.T) {
	for n := range 100 {
		for format, most := range map[string]int{"%02d0000Z": 23, "00%02d00Z": 59, "0000%02dZ": 59} {
			s := "240229" + fmt.Sprintf(format, n)
			if right(t, 23, []byte(s)) != (n <= most) || right(t, 24, []byte("20"+s)) != (n <= most) {
				t.Errorf("%s: %v", s, n > most)
			}
		}
	}
}

// P9.1, P9.2: of a short time which year is meant, by its leap days: 1900 would be none, 2000 is one.
func TestShortYears(t *testing.T) {
	for year := range 100 {
		whole := 2000 + year
		if year >= 50 {
			whole = 1900 + year
		}
		s := fmt.Sprintf("%02d0229000000Z", year)
		if want := whole%4 == 0; right(t, 23, []byte(s)) != want {
			t.Errorf("%s: %v", s, !want)
		}
	}
	for s, want := range map[string]bool{"19000229000000Z": false, "20000229000000Z": true, "21000229000000Z": false} {
		if right(t, 24, []byte(s)) != want {
			t.Errorf("%s: %v", s, !want)
		}
	}
}

// P9.1, P9.2: every place of a time must be a digit, its end the letter, its length its own.
func TestTimesInEveryPlace(t *testing.T) {
	for tag, s := range map[int]string{23: "111111111111Z", 24: "11111111111111Z"} {
		for i := range len(s) {
			for c := range 256 {
				b := []byte(s)
				b[i] = byte(c)
				if got := right(t, tag, b); got != slowRight(tag, b) || got && c > '9' && c != 'Z' {
					t.Errorf("%q: %v", b, got)
				}
			}
		}
		for _, other := range []string{"", s[1:], s[:len(s)-1], s + "Z", "1" + s, s[:len(s)-1] + "+0000", s[:len(s)-1] + ".0Z", s[:len(s)-1] + "z", " " + s[1:], "-" + s[1:], "+" + s[1:]} {
			if right(t, tag, []byte(other)) {
				t.Errorf("%d: %q is taken", tag, other)
			}
		}
	}
	if right(t, 23, []byte("20111111111111Z")) || right(t, 24, []byte("111111111111Z")) {
		t.Error("one kind of time is taken for the other")
	}
}
