package slh

import (
	"iter"

	"chancery/shake"
)

// The types of addresses.
const (
	kindWotsStep = iota
	kindWotsKey
	kindTreeNode
	kindForsNode
	kindForsKey
	kindWotsSecret
	kindForsSecret
)

// hash is the first bytes that SHAKE256 tells of the parts.
func hash(length int, parts ...[]byte) []byte {
	s := shake.New(256)
	for _, p := range parts {
		s.Write(p)
	}
	return s.Read(length)
}

// A hasher hashes parts at an address of this type and with these words; it knows the public seed, the layer and the tree.
type hasher func(kind, first, second, third int, parts ...[]byte) []byte

// at is the hasher of a tree.
func (n numbers) at(public []byte, layer, tree int) hasher {
	var address [32]byte
	put(address[:4], layer)
	put(address[4:16], tree)
	return func(kind, first, second, third int, parts ...[]byte) []byte {
		here := address
		for i, word := range [4]int{kind, first, second, third} {
			put(here[16+4*i:20+4*i], word)
		}
		return hash(n.n, append([][]byte{public, here[:]}, parts...)...)
	}
}

// put writes a number over all of b.
func put(b []byte, number int) {
	for i := len(b) - 1; i >= 0; i-- {
		b[i] = byte(number)
		number >>= 8
	}
}

// number is what put wrote.
func number(b []byte) int {
	v := 0
	for _, c := range b {
		v = v<<8 | int(c)
	}
	return v
}

// digest is what is signed of a message, R and the public key being given: the bytes for Fors, and in which tree, at which leaf.
func (n numbers) digest(r, pk []byte, message ...[]byte) (md []byte, tree, leaf int) {
	m1, m2, m3 := wholeBytes(n.k*n.a), wholeBytes(n.h-n.height()), wholeBytes(n.height())
	b := hash(m1+m2+m3, append([][]byte{r, pk}, message...)...)
	tree = number(b[m1:m1+m2]) & (1<<(n.h-n.height()) - 1)
	leaf = number(b[m1+m2:]) & (1<<n.height() - 1)
	return b[:m1], tree, leaf
}

// wholeBytes is how many bytes so many bits take.
func wholeBytes(bits int) int { return (bits + 7) / 8 }

// pieces are those of b that have one size, with their numbers.
func pieces(b []byte, size int) iter.Seq2[int, []byte] {
	return func(yield func(int, []byte) bool) {
		for i := range len(b) / size {
			if !yield(i, b[i*size:(i+1)*size]) {
				return
			}
		}
	}
}
