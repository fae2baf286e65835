package wal

import (
	"bytes"
	"encoding/binary"
	"slices"
	"testing"

	"chancery/api"
	"chancery/plate"
)

// slowHead is the first sixteen bytes of a part's sector, by the chapter's words.
func slowHead(gen, opening, number, place, less int) []byte {
	b := binary.BigEndian.AppendUint32(nil, uint32(gen))
	b = binary.BigEndian.AppendUint32(b, uint32(opening))
	b = binary.BigEndian.AppendUint32(b, uint32(number))
	b = binary.BigEndian.AppendUint16(b, uint16(place))
	return binary.BigEndian.AppendUint16(b, uint16(less))
}

// slowSectors are a record's sectors by the chapter's words.
func slowSectors(gen, opening, number int, record []byte) [][]byte {
	all := append(binary.BigEndian.AppendUint32(nil, uint32(len(record))), record...)
	for len(all)%48 != 0 {
		all = append(all, 0)
	}
	var sectors [][]byte
	for i := range len(all) / 48 {
		sectors = append(sectors, append(slowHead(gen, opening, number, i, len(all)/48-1), all[48*i:48*i+48]...))
	}
	return sectors
}

// slowThere tells the records that are there and how many sectors they take: a record is, if it is just what would have been written.
func slowThere(sectors [][]byte, gen int) ([][]byte, int) {
	var records [][]byte
	at, least := 0, 1
	for at < len(sectors) {
		opening := int(binary.BigEndian.Uint32(sectors[at][4:]))
		length := int(binary.BigEndian.Uint32(sectors[at][16:]))
		var all []byte
		for _, s := range sectors[at:] {
			all = append(all, s[16:]...)
		}
		if opening < least || length > 1<<16 || 4+length > len(all) {
			break
		}
		record := all[4 : 4+length]
		written := slowSectors(gen, opening, len(records)+1, record)
		if !slices.EqualFunc(sectors[at:at+len(written)], written, bytes.Equal) {
			break
		}
		records = append(records, record)
		at, least = at+len(written), opening
	}
	return records, at
}

// slowOpening is the opening's number by the chapter's words; 1366 parts are what a record of 2^16 bytes has.
func slowOpening(sectors [][]byte, gen int) int {
	greatest := 0
	for _, s := range sectors {
		opening, number := binary.BigEndian.Uint32(s[4:]), binary.BigEndian.Uint32(s[8:])
		place, count := int(binary.BigEndian.Uint16(s[12:])), int(binary.BigEndian.Uint16(s[14:]))+1
		if int(binary.BigEndian.Uint32(s)) == gen && number > 0 && place < count && count <= 1366 {
			greatest = max(greatest, int(opening))
		}
	}
	return greatest + 1
}

// slowRoom is found by trying, from a length on that surely fits.
func slowRoom(left int) int {
	room := -1
	for n := max(0, min(1<<16, 48*left-100)); n <= 1<<16 && slowParts(n) <= left; n++ {
		room = n
	}
	return room
}

func slowParts(length int) int {
	parts := 0
	for rest := 4 + length; rest > 0; rest -= 48 {
		parts++
	}
	return parts
}

func expect(t *testing.T, what string, got, want api.Errno) {
	t.Helper()
	if got != want {
		t.Fatalf("%s: %d, want %d", what, got, want)
	}
}

func newPlate(t *testing.T, sectors int) *plate.Plate {
	t.Helper()
	p := plate.New(sectors)
	if p == nil {
		t.Fatal("no plate of", sectors)
	}
	return p
}

// open opens a log, which must be done.
func open(t *testing.T, p *plate.Plate, from, to, gen int) *Log {
	t.Helper()
	l, e := Open(p, from, to, gen)
	if e != api.OK || l == nil {
		t.Fatalf("Open(%d, %d, %d) is %v, %d", from, to, gen, l, e)
	}
	return l
}

// add appends a record, which must be done.
func add(t *testing.T, l *Log, b []byte) {
	t.Helper()
	expect(t, "Append", l.Append(b), api.OK)
}

// lay writes sectors from a place on, and makes them safe.
func lay(t *testing.T, p *plate.Plate, at int, sectors ...[]byte) {
	t.Helper()
	for i, s := range sectors {
		expect(t, "Write", p.Write(at+i, s), api.OK)
	}
	expect(t, "Sync", p.Sync(), api.OK)
}

// allOf reads a plate's sectors from a place on to another.
func allOf(t *testing.T, p *plate.Plate, from, to int) [][]byte {
	t.Helper()
	var sectors [][]byte
	for at := from; at < to; at++ {
		s, e := p.Read(at)
		expect(t, "Read", e, api.OK)
		sectors = append(sectors, s)
	}
	return sectors
}

func same(a, b [][]byte) bool { return slices.EqualFunc(a, b, bytes.Equal) }

// holds asks a log for its records, in order.
func holds(t *testing.T, l *Log, want ...[]byte) {
	t.Helper()
	if got := l.Records(); !same(got, want) {
		t.Fatalf("Records are %x, want %x", got, want)
	}
}

// holdsByWords holds a new log against what stands in its sectors, by the chapter's words.
func holdsByWords(t *testing.T, p *plate.Plate, from, to, gen int) *Log {
	t.Helper()
	sectors := allOf(t, p, from, to)
	l := open(t, p, from, to, gen)
	want, used := slowThere(sectors, gen)
	holds(t, l, want...)
	if got, want := l.Opening(), slowOpening(sectors, gen); got != want {
		t.Fatalf("Opening is %d, want %d", got, want)
	}
	if got, want := l.Room(), slowRoom(to-from-used); got != want {
		t.Fatalf("Room is %d, want %d", got, want)
	}
	return l
}

// full is a record of one byte, many times.
func full(b byte, n int) []byte { return bytes.Repeat([]byte{b}, n) }
