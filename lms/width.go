package lms

import "slices"

// A width is how many bits a digit has, and what hangs on it.
type width struct {
	bits   int // w
	kind   int // its type
	chains int // p: how many digits are signed
	shift  int // ls: by how much the checksum moves up, so that its digits fill its two bytes from the front
}

// widths are all there are.
var widths = [4]width{
	{bits: 1, kind: 1, chains: 265, shift: 7},
	{bits: 2, kind: 2, chains: 133, shift: 6},
	{bits: 4, kind: 3, chains: 67, shift: 4},
	{bits: 8, kind: 4, chains: 34, shift: 0},
}

// widthOfBits is the width of so many bits, and whether it is one.
func widthOfBits(bits int) (width, bool) {
	for _, w := range widths {
		if w.bits == bits {
			return w, true
		}
	}
	return width{}, false
}

// widthOfKind is the width of a type, and whether it is one.
func widthOfKind(kind int) (width, bool) {
	for _, w := range widths {
		if w.kind == kind {
			return w, true
		}
	}
	return width{}, false
}

// last is the greatest digit: as many steps lead from a secret to its end.
func (w width) last() int { return 1<<w.bits - 1 }

// digit is one of b.
func (w width) digit(b []byte, place int) int {
	bit := place * w.bits
	return int(b[bit/8]) >> (8 - w.bits - bit%8) & w.last()
}

// digits are those of a digest and, behind them, those of a checksum that falls when one of them rises:
// nobody can raise them all.
func (w width) digits(digest []byte) []int {
	sum := 0
	for i := range 8 * len(digest) / w.bits {
		sum += w.last() - w.digit(digest, i)
	}
	all := slices.Concat(digest, two(sum<<w.shift))
	list := make([]int, w.chains)
	for i := range list {
		list[i] = w.digit(all, i)
	}
	return list
}
