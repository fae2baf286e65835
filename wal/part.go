package wal

import (
	"slices"

	"chancery/api"
)

const (
	headBytes   = 16
	partBytes   = api.Sector - headBytes
	lengthBytes = 4
	mostParts   = (lengthBytes + api.MaxBytes + partBytes - 1) / partBytes
)

// A head is the numbers that stand in a sector ahead of its part's bytes.
type head struct {
	gen, opening, number int
	place                int
	last                 int // the place of the record's last part
}

func readHead(sector []byte) head {
	return head{
		gen:     readNumber(sector[:4]),
		opening: readNumber(sector[4:8]),
		number:  readNumber(sector[8:12]),
		place:   readNumber(sector[12:14]),
		last:    readNumber(sector[14:16]),
	}
}

// isPart tells whether the numbers are such as a part of some record may have.
func (h head) isPart() bool {
	return h.opening >= 1 && h.number >= 1 && h.place <= h.last && h.last < mostParts
}

func (h head) sector(part []byte) []byte {
	b := make([]byte, 0, api.Sector)
	b = addNumber(b, h.gen, 4)
	b = addNumber(b, h.opening, 4)
	b = addNumber(b, h.number, 4)
	b = addNumber(b, h.place, 2)
	b = addNumber(b, h.last, 2)
	return append(b, part...)[:api.Sector]
}

// partsOf is how many parts a record of so many bytes needs.
func partsOf(length int) int { return (lengthBytes + length + partBytes - 1) / partBytes }

// withLength is what is cut in parts: a record behind its length.
func withLength(record []byte) []byte {
	return append(addNumber(nil, len(record), lengthBytes), record...)
}

// withoutLength gets the record back out of the bytes of its parts; false, if they are none's.
func withoutLength(parts []byte) ([]byte, bool) {
	length := readNumber(parts[:lengthBytes])
	if length > api.MaxBytes || partsOf(length)*partBytes != len(parts) {
		return nil, false
	}
	end := lengthBytes + length
	if slices.ContainsFunc(parts[end:], isSet) {
		return nil, false
	}
	return slices.Clone(parts[lengthBytes:end]), true
}

func isSet(b byte) bool { return b != 0 }

func readNumber(b []byte) int {
	n := 0
	for _, x := range b {
		n = n<<8 | int(x)
	}
	return n
}

func addNumber(b []byte, n int, size int) []byte {
	for i := range size {
		b = append(b, byte(n>>(8*(size-1-i))))
	}
	return b
}
