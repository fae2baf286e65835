package dsa

import "math/bits"

const (
	q    = 8380417
	size = 256 // how many coefficients a polynomial has
)

// numbers are those of a set.
type numbers struct {
	k, l   int // rows and columns of the matrix
	e      int // the greatest number of s1 and s2
	t      int // how many numbers of a challenge aren't 0
	b      int // how far a challenge times s1 or s2 may go: t e
	g1, g2 int // how wide masks are, and where Decompose cuts
	w      int // the most hints
	c      int // bytes of c'
}

// find is the numbers of a set, and whether it is one.
func find(set int) (numbers, bool) {
	switch set {
	case 44:
		return numbers{k: 4, l: 4, e: 2, t: 39, b: 78, g1: 1 << 17, g2: 95232, w: 80, c: 32}, true
	case 65:
		return numbers{k: 6, l: 5, e: 4, t: 49, b: 196, g1: 1 << 19, g2: 261888, w: 55, c: 48}, true
	case 87:
		return numbers{k: 8, l: 7, e: 2, t: 60, b: 120, g1: 1 << 19, g2: 261888, w: 75, c: 64}, true
	}
	return numbers{}, false
}

// smallBits is how many bits a number of s1 or s2 has.
func (n numbers) smallBits() int { return bits.Len(uint(2 * n.e)) }

// maskBits is how many bits a number of a mask or of z has.
func (n numbers) maskBits() int { return bits.Len(uint(n.g1)) }

// highBits is how many bits a high part has.
func (n numbers) highBits() int { return bits.Len(uint((q-1)/(2*n.g2) - 1)) }

// publicSize is how many bytes a public key has.
func (n numbers) publicSize() int { return seedSize + n.k*packedSize(publicBits) }

// secretSize is how many bytes a secret key has.
func (n numbers) secretSize() int {
	return secretHead + (n.l+n.k)*packedSize(n.smallBits()) + n.k*packedSize(cutBits)
}

// signatureSize is how many bytes a signature has.
func (n numbers) signatureSize() int {
	return n.c + n.l*packedSize(n.maskBits()) + n.w + n.k
}

// packedSize is how many bytes a polynomial has with so many bits a number.
func packedSize(bits int) int { return size / 8 * bits }
