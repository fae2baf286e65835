package shake

import "math/bits"

// numbers are the rounds' numbers, as the chapter's register makes them.
var numbers = [24]uint64{
	0x0000000000000001, 0x0000000000008082, 0x800000000000808a, 0x8000000080008000,
	0x000000000000808b, 0x0000000080000001, 0x8000000080008081, 0x8000000000008009,
	0x000000000000008a, 0x0000000000000088, 0x0000000080008009, 0x000000008000000a,
	0x000000008000808b, 0x800000000000008b, 0x8000000000008089, 0x8000000000008003,
	0x8000000000008002, 0x8000000000000080, 0x000000000000800a, 0x800000008000000a,
	0x8000000080008081, 0x8000000000008080, 0x0000000080000001, 0x8000000080008008,
}

// Permute is the permutation.
func Permute(s [25]uint64) [25]uint64 {
	var next [25]uint64
	for i := 0; i < len(numbers); i += 2 {
		round(&next, &s, numbers[i])
		round(&s, &next, numbers[i+1])
	}
	return s
}

// round lays into out the state s behind the round of a number. It is written out lane
// by lane, and from one array to another, because all that hashes waits for it: a loop
// that reckons places and bits takes ten times as long, arrays as values twice.
func round(out, s *[25]uint64, number uint64) {
	c0 := s[0] ^ s[5] ^ s[10] ^ s[15] ^ s[20]
	c1 := s[1] ^ s[6] ^ s[11] ^ s[16] ^ s[21]
	c2 := s[2] ^ s[7] ^ s[12] ^ s[17] ^ s[22]
	c3 := s[3] ^ s[8] ^ s[13] ^ s[18] ^ s[23]
	c4 := s[4] ^ s[9] ^ s[14] ^ s[19] ^ s[24]
	d0, d1, d2, d3, d4 := c4^left(c1, 1), c0^left(c2, 1), c1^left(c3, 1), c2^left(c4, 1), c3^left(c0, 1)
	out[0], out[1], out[2], out[3], out[4] = row(s[0]^d0,
		left(s[6]^d1, 44), left(s[12]^d2, 43), left(s[18]^d3, 21), left(s[24]^d4, 14))
	out[5], out[6], out[7], out[8], out[9] = row(left(s[3]^d3, 28),
		left(s[9]^d4, 20), left(s[10]^d0, 3), left(s[16]^d1, 45), left(s[22]^d2, 61))
	out[10], out[11], out[12], out[13], out[14] = row(left(s[1]^d1, 1),
		left(s[7]^d2, 6), left(s[13]^d3, 25), left(s[19]^d4, 8), left(s[20]^d0, 18))
	out[15], out[16], out[17], out[18], out[19] = row(left(s[4]^d4, 27),
		left(s[5]^d0, 36), left(s[11]^d1, 10), left(s[17]^d2, 15), left(s[23]^d3, 56))
	out[20], out[21], out[22], out[23], out[24] = row(left(s[2]^d2, 62),
		left(s[8]^d3, 55), left(s[14]^d4, 39), left(s[15]^d0, 41), left(s[21]^d1, 2))
	out[0] ^= number
}

// left is x turned left by n bits.
func left(x uint64, n int) uint64 { return bits.RotateLeft64(x, n) }

// row makes each lane of a row of itself and the two behind it.
func row(a, b, c, d, e uint64) (uint64, uint64, uint64, uint64, uint64) {
	return a ^ ^b&c, b ^ ^c&d, c ^ ^d&e, d ^ ^e&a, e ^ ^a&b
}
