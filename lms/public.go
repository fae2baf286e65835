package lms

import (
	"bytes"
	"slices"
)

// A public key is that of one tree.
type public struct {
	shape
	identity, root []byte
}

// bytes are those of the public key.
func (p public) bytes() []byte {
	return slices.Concat(four(kindOfHeight(p.height)), four(p.kind), p.identity, p.root)
}

// publicOf is the public key that stands in b, and whether it is one.
func publicOf(b []byte) (public, bool) {
	r := reader{rest: b}
	height, okHeight := heightOfKind(r.number())
	w, okWidth := widthOfKind(r.number())
	p := public{shape: shape{height: height, width: w}, identity: r.take(identitySize), root: r.take(hashSize)}
	if !okHeight || !okWidth || !r.ended() {
		return public{}, false
	}
	return p, true
}

// verifies tells whether a storey signs a message under a tree's public key.
func verifies(pk, msg []byte, s storey) bool {
	p, ok := publicOf(pk)
	return ok && p.shape == s.shape && bytes.Equal(p.root, p.rootOf(s, msg))
}

// rootOf is the node 1 that comes of a storey.
func (p public) rootOf(s storey, msg []byte) []byte {
	at := func(number int) spot { return spot{identity: p.identity, number: number} }
	key := leaf{width: p.width, spot: at(s.leaf)}.keyOf(s.c, s.parts, msg)
	place := p.leaves() + s.leaf
	node := at(place).hash(markLeaf, key)
	for beside := s.beside; len(beside) > 0; beside = beside[hashSize:] {
		left, right := node, beside[:hashSize]
		if place%2 == 1 {
			left, right = right, left
		}
		place /= 2
		node = at(place).hash(markNode, left, right)
	}
	return node
}
