package dsa

import (
	"chancery/ring"
	"chancery/round"
)

// pack is a vector in bytes, so many bits a number.
func pack(a [][]int, bits int) []byte {
	out := make([]byte, 0, len(a)*packedSize(bits))
	for _, list := range a {
		b, _ := round.Pack(list, bits)
		out = append(out, b...)
	}
	return out
}

// unpack is the vector that pack wrote.
func unpack(b []byte, bits int) [][]int {
	each := packedSize(bits)
	return vector(len(b)/each, func(i int) []int {
		list, _ := round.Unpack(b[i*each:(i+1)*each], bits)
		return list
	})
}

// centred is a vector of numbers around 0 in bytes, each as how far it is below top.
func centred(a [][]int, top, bits int) []byte {
	return pack(numberwise(a, func(n int) int { return top - ring.Center(n) }), bits)
}

// uncentred is the vector that centred wrote.
func uncentred(b []byte, top, bits int) [][]int {
	return numberwise(unpack(b, bits), func(n int) int { return modulo(top - n) })
}

// modulo is a number around 0 as the one from 0 on.
func modulo(n int) int {
	if n < 0 {
		return n + q
	}
	return n
}
