package lms

import "slices"

// A leaf signs once: digit by digit of its width, at its spot.
type leaf struct {
	width
	spot
}

// steps takes x from one step of a chain to the one ahead of another.
func (l leaf) steps(chain, from, to int, x []byte) []byte {
	for step := from; step < to; step++ {
		x = l.hash(chain, []byte{byte(step)}, x)
	}
	return x
}

// messageDigits are those of a message with C.
func (l leaf) messageDigits(c, msg []byte) []int { return l.digits(l.hash(markMessage, c, msg)) }

// key is the leaf's key, whose secrets come of a seed.
func (l leaf) key(seed []byte) []byte {
	ends := make([][]byte, l.chains)
	for i := range ends {
		ends[i] = l.steps(i, 0, l.last(), l.secret(i, seed))
	}
	return l.hash(markKey, ends...)
}

// sign is the leaf's signature, whose secrets come of a seed.
func (l leaf) sign(seed, msg []byte) []byte {
	c := l.secret(markC, seed)
	parts := [][]byte{four(l.kind), c}
	for i, digit := range l.messageDigits(c, msg) {
		parts = append(parts, l.steps(i, 0, digit, l.secret(i, seed)))
	}
	return slices.Concat(parts...)
}

// keyOf is the key that comes of a leaf's signature: of C, and of the parts of its chains.
func (l leaf) keyOf(c, parts, msg []byte) []byte {
	ends := make([][]byte, l.chains)
	for i, digit := range l.messageDigits(c, msg) {
		ends[i] = l.steps(i, digit, l.last(), parts[i*hashSize:(i+1)*hashSize])
	}
	return l.hash(markKey, ends...)
}
