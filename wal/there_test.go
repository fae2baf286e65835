package wal

import (
	"slices"
	"testing"
)

// laidOut is a log of 16 sectors, generation 6, with sectors as they are given.
func laidOut(t *testing.T, sectors ...[]byte) *Log {
	t.Helper()
	p := newPlate(t, 20)
	lay(t, p, 2, sectors...)
	return holdsByWords(t, p, 2, 18, 6)
}

// three are the sectors of a log with the records of 10, 140 and 44 bytes: 1, 3 and 1 sectors.
func three() [][]byte {
	return slices.Concat(slowSectors(6, 2, 1, full(1, 10)), slowSectors(6, 2, 2, full(2, 140)), slowSectors(6, 4, 3, full(3, 44)))
}

// P14.1: what is there, and the opening behind it.
func TestThere(t *testing.T) {
	l := laidOut(t, three()...)
	holds(t, l, full(1, 10), full(2, 140), full(3, 44))
	if l.Opening() != 5 || l.Room() != 11*48-4 {
		t.Error("Opening is", l.Opening(), "Room", l.Room())
	}
}

// P14.1: one bit that is another, in any sector: a record is there whole, or not at all, and those behind it aren't.
func TestOneBit(t *testing.T) {
	whole := [][]byte{full(1, 10), full(2, 140), full(3, 44)}
	for at, record := range []int{0, 1, 1, 1, 2} {
		for bit := range 64 * 8 {
			sectors := three()
			sectors[at][bit/8] ^= 1 << (bit % 8)
			got := laidOut(t, sectors...).Records()
			if len(got) < record || !same(got[:record], whole[:record]) {
				t.Fatalf("sector %d, bit %d: records ahead of it are gone", at, bit)
			}
			isOpening := bit/8 >= 4 && bit/8 < 8 // a record of one sector may have another
			if bit/8 < 16 && !(isOpening && record != 1) && len(got) != record {
				t.Fatalf("sector %d, bit %d: %d records", at, bit, len(got))
			}
		}
	}
}

// P14.1: each of a record's rules, broken by itself.
func TestNotThere(t *testing.T) {
	for _, x := range []struct {
		name    string
		breaks  func(s [][]byte) [][]byte
		records int
	}{
		{"nothing", func(s [][]byte) [][]byte { return s }, 3},
		{"a gap ahead", func(s [][]byte) [][]byte { return slices.Insert(s, 0, make([]byte, 64)) }, 0},
		{"a gap between records", func(s [][]byte) [][]byte { return slices.Insert(s, 1, make([]byte, 64)) }, 1},
		{"a gap in a record", func(s [][]byte) [][]byte { return slices.Insert(s, 2, make([]byte, 64)) }, 1},
		{"a gap ahead of the last", func(s [][]byte) [][]byte { return slices.Insert(s, 4, make([]byte, 64)) }, 2},
		{"parts in another order", func(s [][]byte) [][]byte { s[2], s[3] = s[3], s[2]; return s }, 1},
		{"no last part", func(s [][]byte) [][]byte { return slices.Delete(s, 3, 4) }, 1},
		{"no first part", func(s [][]byte) [][]byte { return slices.Delete(s, 1, 2) }, 1},
		{"a part twice", func(s [][]byte) [][]byte { return slices.Insert(s, 3, s[2]) }, 1},
		{"a record twice", func(s [][]byte) [][]byte { return slices.Insert(s, 1, s[0]) }, 1},
		{"records in another order", func(s [][]byte) [][]byte { return slices.Concat(s[:1], s[4:], s[1:4]) }, 1},
		{"a number from 0 on", func(s [][]byte) [][]byte { return slices.Concat(slowSectors(6, 2, 0, full(1, 10)), s[1:]) }, 0},
		{"a number left out", func(s [][]byte) [][]byte { return slices.Concat(s[:1], slowSectors(6, 2, 3, full(2, 140))) }, 1},
		{"another generation", func(s [][]byte) [][]byte { return slices.Concat(s[:1], slowSectors(5, 2, 2, full(2, 140)), s[4:]) }, 1},
		{"a greater generation", func(s [][]byte) [][]byte { return slices.Concat(slowSectors(7, 2, 1, full(2, 10)), s[1:]) }, 0},
		{"another generation's part", func(s [][]byte) [][]byte { s[2] = slowSectors(5, 2, 2, full(2, 140))[1]; return s }, 1},
		{"another opening's part", func(s [][]byte) [][]byte { s[2] = slowSectors(6, 3, 2, full(2, 140))[1]; return s }, 1},
		{"another opening's last part", func(s [][]byte) [][]byte { s[3] = slowSectors(6, 1, 2, full(2, 140))[2]; return s }, 1},
		{"another opening's first part", func(s [][]byte) [][]byte { s[1] = slowSectors(6, 3, 2, full(2, 140))[0]; return s }, 1},
		{"another number's part", func(s [][]byte) [][]byte { s[2] = slowSectors(6, 2, 3, full(2, 140))[1]; return s }, 1},
		{"another count's part", func(s [][]byte) [][]byte { s[2] = slowSectors(6, 2, 2, full(2, 141))[1]; return s }, 1},
		{"an opening below the one ahead", func(s [][]byte) [][]byte { return slices.Concat(s[:1], slowSectors(6, 1, 2, full(2, 140)), s[4:]) }, 1},
		{"a first opening of 0", func(s [][]byte) [][]byte { return slices.Concat(slowSectors(6, 0, 1, full(2, 10)), s[1:]) }, 0},
		{"openings that rise", func(s [][]byte) [][]byte { return slices.Concat(slowSectors(6, 1, 1, full(1, 10)), s[1:]) }, 3},
		{"openings that fall again", func(s [][]byte) [][]byte { return slices.Concat(s[:4], slowSectors(6, 1, 3, full(3, 44))) }, 2},
		{"a byte behind the record", func(s [][]byte) [][]byte { s[0][30] = 1; return s }, 0},
		{"a byte at the sector's end", func(s [][]byte) [][]byte { s[0][63] = 0x80; return s }, 0},
		{"a length below", func(s [][]byte) [][]byte { s[0][19] = 9; return s }, 0},
		{"a length above", func(s [][]byte) [][]byte { s[0][19] = 45; return s }, 0},
		{"a length that is as good", func(s [][]byte) [][]byte { s[0][19] = 44; return s }, 3},
		{"a length of fewer parts", func(s [][]byte) [][]byte { s[1][19] = 92; clear(s[3][16:]); return s }, 1},
		{"a length of more parts", func(s [][]byte) [][]byte { s[1][19] = 141; return s }, 1},
		{"a length of just as many", func(s [][]byte) [][]byte { s[1][19] = 93; clear(s[3][17:]); return s }, 3},
		{"a great length", func(s [][]byte) [][]byte { s[1][16] = 1; return s }, 1},
		{"the greatest length", func(s [][]byte) [][]byte { copy(s[1][16:], full(255, 4)); return s }, 1},
		{"a nought too many", func(s [][]byte) [][]byte { return append(s[:1], padded(6, 2, 2, full(2, 92), 3)...) }, 1},
		{"no part but noughts", func(s [][]byte) [][]byte { return append(s[:1], padded(6, 2, 2, nil, 2)...) }, 1},
	} {
		t.Run(x.name, func(t *testing.T) {
			if got := laidOut(t, x.breaks(three())...).Records(); len(got) != x.records {
				t.Errorf("%d records, want %d", len(got), x.records)
			}
		})
	}
}

// padded are a record's sectors, with parts of noughts behind it till there are so many.
func padded(gen, opening, number int, record []byte, count int) [][]byte {
	sectors := slowSectors(gen, opening, number, record)
	for len(sectors) < count {
		sectors = append(sectors, make([]byte, 64))
	}
	for i, s := range sectors {
		copy(s, slowHead(gen, opening, number, i, count-1))
	}
	return sectors
}

// P14.1: a record that goes on past the log's end isn't there, though the plate has its sectors.
func TestPastTheEnd(t *testing.T) {
	p := newPlate(t, 20)
	lay(t, p, 2, three()...)
	for to, want := range map[int]int{3: 1, 4: 1, 5: 1, 6: 2, 7: 3, 20: 3} {
		if l := holdsByWords(t, p, 2, to, 6); len(l.Records()) != want {
			t.Errorf("to %d: %d records, want %d", to, len(l.Records()), want)
		}
	}
}

// P14.1: no record has more than MaxBytes bytes, though its last part had room for more.
func TestTooLongToBeThere(t *testing.T) {
	for n, want := range map[int]int{1 << 16: 1, 1<<16 + 1: 0, 48*1366 - 4: 0, 48*1366 - 3: 0, 1 << 17: 0} {
		p := newPlate(t, 4000)
		lay(t, p, 0, slowSectors(1, 1, 1, full(1, n))...)
		l := holdsByWords(t, p, 0, 4000, 1)
		if len(l.Records()) != want {
			t.Errorf("%d bytes: %d records", n, len(l.Records()))
		}
	}
}

// P14.1: which sectors' openings count: those of parts, wherever they stand, of this generation, whole or not.
func TestWhichOpeningsCount(t *testing.T) {
	for _, x := range []struct {
		gen, opening, number, place, less int
		want                              int
	}{
		{6, 7, 1, 0, 0, 8}, {6, 7, 1, 3, 3, 8}, {6, 7, 1, 4, 3, 1}, {6, 7, 1, 1, 0, 1}, {6, 7, 1, 65535, 0, 1}, {6, 7, 1, 256, 255, 1},
		{6, 7, 0, 0, 0, 1}, {6, 7, 2, 0, 0, 8}, {6, 7, 1 << 20, 0, 0, 8}, {6, 7, 1<<32 - 1, 0, 0, 8},
		{6, 7, 1, 0, 1365, 8}, {6, 7, 1, 1365, 1365, 8}, {6, 7, 1, 0, 1366, 1}, {6, 7, 1, 1366, 1366, 1}, {6, 7, 1, 0, 65535, 1}, {6, 7, 1, 65535, 65535, 1},
		{5, 7, 1, 0, 0, 1}, {7, 7, 1, 0, 0, 1}, {0, 7, 1, 0, 0, 1}, {6 << 8, 7, 1, 0, 0, 1}, {6 + 1<<31, 7, 1, 0, 0, 1},
		{6, 0, 1, 0, 0, 1}, {6, 1, 1, 0, 0, 2}, {6, 256, 1, 0, 0, 257}, {6, 1<<31 - 1, 1, 0, 0, 1 << 31}, {6, 1 << 31, 1, 0, 0, 1<<31 + 1}, {6, 1<<32 - 1, 1, 0, 0, 1 << 32},
	} {
		for _, at := range []int{2, 3, 17} {
			for _, body := range [][]byte{make([]byte, 48), full(255, 48)} {
				p := newPlate(t, 20)
				s := append(slowHead(x.gen, x.opening, x.number, x.place, x.less), body...)
				lay(t, p, at, s)
				lay(t, p, 1, slowSectors(6, 100, 1, nil)...)
				lay(t, p, 18, slowSectors(6, 100, 1, nil)...)
				if got := holdsByWords(t, p, 2, 18, 6).Opening(); got != x.want {
					t.Errorf("%+v at %d: Opening is %d", x, at, got)
				}
			}
		}
	}
}

// P14.1: of all openings that count the greatest is taken, be it a record's that is there or not.
func TestGreatestOpening(t *testing.T) {
	for _, x := range [][3]int{{1, 2, 3}, {3, 2, 1}, {1, 3, 2}, {2, 2, 2}, {9, 10, 300}, {256, 255, 1}} {
		p := newPlate(t, 20)
		for i, at := range []int{2, 9, 17} {
			lay(t, p, at, slowSectors(6, x[i], 1, nil)...)
		}
		if got, want := holdsByWords(t, p, 2, 18, 6).Opening(), slices.Max(x[:])+1; got != want {
			t.Errorf("%v: Opening is %d, want %d", x, got, want)
		}
	}
}

// P1: a log goes on without a panic behind an opening that is greater than four bytes hold.
func TestOpeningsEnd(t *testing.T) {
	p := newPlate(t, 8)
	lay(t, p, 7, slowSectors(6, 1<<32-1, 9, nil)...)
	l := holdsByWords(t, p, 0, 8, 6)
	add(t, l, full(1, 50))
	holds(t, l, full(1, 50))
	if l.Opening() != 1<<32 {
		t.Error("Opening is", l.Opening())
	}
	holdsByWords(t, p, 0, 8, 6)
}
