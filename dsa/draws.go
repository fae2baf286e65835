package dsa

import (
	"chancery/round"
	"chancery/shake"
)

// The sponges are read in pieces as long as their rates, as they are permuted once a piece;
// a piece of the first is whole threes.
const (
	piece128 = 168
	piece256 = 136
)

// told is a sponge that tells of the parts, one behind the other.
func told(bits int, parts ...[]byte) *shake.Sponge {
	s := shake.New(bits)
	for _, p := range parts {
		s.Write(p)
	}
	return s
}

// hash is the first bytes that SHAKE256 tells of the parts.
func hash(length int, parts ...[]byte) []byte { return told(256, parts...).Read(length) }

// two is a number in two bytes.
func two(r int) []byte { return []byte{byte(r), byte(r >> 8)} }

// matrix is the rows of A, of transforms.
func (n numbers) matrix(rho []byte) [][][]int {
	rows := make([][][]int, n.k)
	for i := range rows {
		rows[i] = vector(n.l, func(j int) []int { return entry(rho, i, j) })
	}
	return rows
}

// entry is the transform in one row and column of A.
func entry(rho []byte, row, column int) []int {
	s := told(128, rho, []byte{byte(column), byte(row)})
	list := make([]int, 0, size)
	for len(list) < size {
		for b := s.Read(piece128); len(b) > 0 && len(list) < size; b = b[3:] {
			v := int(b[0]) | int(b[1])<<8 | int(b[2]&0x7f)<<16
			if v < q {
				list = append(list, v)
			}
		}
	}
	return list
}

// small is the polynomial number r of s1 and s2.
func (n numbers) small(seed []byte, r int) []int {
	s := told(256, seed, two(r))
	list := make([]int, 0, size)
	for len(list) < size {
		for _, b := range s.Read(piece256) {
			list = n.keep(list, int(b&15))
			list = n.keep(list, int(b>>4))
		}
	}
	return list
}

// keep appends the number that a half byte means, if it means one and the list isn't full.
func (n numbers) keep(list []int, v int) []int {
	if len(list) == size {
		return list
	}
	if n.e == 2 && v < 15 {
		return append(list, modulo(2-v%5))
	}
	if n.e == 4 && v < 9 {
		return append(list, modulo(4-v))
	}
	return list
}

// mask is the polynomial number r of the masks.
func (n numbers) mask(seed []byte, r int) []int {
	b := hash(packedSize(n.maskBits()), seed, two(r))
	list, _ := round.Unpack(b, n.maskBits())
	for i, v := range list {
		list[i] = modulo(n.g1 - v)
	}
	return list
}

// ball is the challenge that c' means: t numbers are 1 or -1, the others 0.
func (n numbers) ball(short []byte) []int {
	s := told(256, short)
	signs := s.Read(8)
	list := make([]int, size)
	for sign := range n.t {
		i := size - n.t + sign
		j := upTo(s, i)
		list[i] = list[j]
		list[j] = 1
		if signs[sign/8]>>(sign%8)&1 == 1 {
			list[j] = q - 1
		}
	}
	return list
}

// upTo is the first byte read that is at most i.
func upTo(s *shake.Sponge, i int) int {
	for {
		if j := int(s.Read(1)[0]); j <= i {
			return j
		}
	}
}
