package merkle

import (
	"bytes"
	"math/bits"

	"chancery/sha"
)

// size is how many bytes a hash has.
const size = 32

// What stands ahead of what is hashed, so that no leaf's hash is that of a list.
const (
	ofLeaf = 0
	ofList = 1
)

// Leaf is a leaf's hash.
func Leaf(d []byte) []byte { return marked(ofLeaf, d) }

// joined is the hash of a list, made of those of its two parts.
func joined(left, right []byte) []byte { return marked(ofList, left, right) }

// marked is the sum of a mark and all parts, joined.
func marked(mark byte, parts ...[]byte) []byte {
	h := sha.New()
	h.Write([]byte{mark})
	for _, part := range parts {
		h.Write(part)
	}
	return h.Sum()
}

// split is how many leaves stand in the first part of a list of n, of 2 or more: the greatest power of 2 below n.
func split(n int) int { return 1 << (bits.Len(uint(n-1)) - 1) }

// areHashes tells whether each one has the length of a hash.
func areHashes(all ...[]byte) bool {
	for _, hash := range all {
		if len(hash) != size {
			return false
		}
	}
	return true
}

// isNone tells whether it is the hash of no leaves.
func isNone(hash []byte) bool { return bytes.Equal(hash, sha.Sum(nil)) }
