// Package sha is layer 1: see shared/doc/01-sha.md.
package sha

// block is how many bytes are mixed into the state at once.
const block = 64

// Hash is told bytes.
type Hash struct {
	state [8]uint32
	last  [block]byte // what was told behind the last whole block, at its beginning
	told  int
}

// New makes one that was told nothing.
func New() *Hash { return &Hash{state: start} }

// Write tells it more.
func (h *Hash) Write(b []byte) {
	for len(b) > 0 {
		n := copy(h.last[h.told%block:], b)
		h.told += n
		b = b[n:]
		if h.told%block == 0 {
			h.state = mix(h.state, h.last)
		}
	}
}

// Len is how many bytes it was told.
func (h *Hash) Len() int { return h.told }

// Sum is the sum of what it was told.
func (h *Hash) Sum() []byte {
	end := *h // the padding goes to a copy, so that h may be told more
	end.Write(padding(h.told))
	out := make([]byte, 0, 4*len(end.state))
	for _, word := range end.state {
		out = append(out, byte(word>>24), byte(word>>16), byte(word>>8), byte(word))
	}
	return out
}

// padding is what follows a message of so many bytes.
func padding(told int) []byte {
	zeros := (2*block - 9 - told%block) % block
	out := make([]byte, 1+zeros, 1+zeros+8)
	out[0] = 0x80
	bits := 8 * uint64(told)
	for shift := 56; shift >= 0; shift -= 8 {
		out = append(out, byte(bits>>shift))
	}
	return out
}

// Sum is a message's sum.
func Sum(b []byte) []byte {
	h := New()
	h.Write(b)
	return h.Sum()
}

// Mac is a message's code under a key.
func Mac(key []byte, b []byte) []byte {
	var filled [block]byte
	if len(key) > block {
		key = Sum(key)
	}
	copy(filled[:], key)
	return masked(filled, 0x5c, masked(filled, 0x36, b))
}

// masked is the sum of a key, each byte of it xored with the mask, and a message.
func masked(key [block]byte, mask byte, b []byte) []byte {
	for i := range key {
		key[i] ^= mask
	}
	h := New()
	h.Write(key[:])
	h.Write(b)
	return h.Sum()
}
