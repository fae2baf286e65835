package lms

import (
	"slices"

	"chancery/api"
)

const publicSize = 2*numberSize + identitySize + hashSize // of a tree's public key

const (
	knownHeight = 5 // the one height here whose type is a number that the standard gives
	ownKinds    = 0xe0000000
)

// A shape is a tree's height and its leaves' width.
type shape struct {
	height int
	width
}

// isHeight tells whether a tree may have this height.
func isHeight(height int) bool { return height >= 1 && height <= api.MaxHeight }

// kindOfHeight is the type of a tree of this height.
func kindOfHeight(height int) int {
	if height == knownHeight {
		return knownHeight
	}
	return ownKinds + height
}

// heightOfKind is the height of a tree of this type, and whether it is one.
func heightOfKind(kind int) (int, bool) {
	for height := 1; isHeight(height); height++ {
		if kindOfHeight(height) == kind {
			return height, true
		}
	}
	return 0, false
}

// leaves is how many leaves a tree has.
func (s shape) leaves() int { return 1 << s.height }

// A tree is one whose leaves can be made.
type tree struct {
	shape
	identity, seed []byte
}

// at is the spot of a leaf or of a node.
func (t tree) at(number int) spot { return spot{identity: t.identity, number: number} }

// leaf is one of the tree's.
func (t tree) leaf(number int) leaf { return leaf{width: t.width, spot: t.at(number)} }

// below is the tree below a leaf.
func (t tree) below(leaf int) tree {
	s := t.at(leaf)
	return tree{shape: t.shape, identity: s.secret(markIdentity, t.seed)[:identitySize], seed: s.secret(markSeed, t.seed)}
}

// A grown tree has its nodes, by their numbers; number 0 is none.
type grown struct {
	tree
	nodes [][]byte
}

// grow makes the nodes.
func (t tree) grow() grown {
	nodes := make([][]byte, 2*t.leaves())
	for i := range t.leaves() {
		place := t.leaves() + i
		nodes[place] = t.at(place).hash(markLeaf, t.leaf(i).key(t.seed))
	}
	for place := t.leaves() - 1; place > 0; place-- {
		nodes[place] = t.at(place).hash(markNode, nodes[2*place], nodes[2*place+1])
	}
	return grown{tree: t, nodes: nodes}
}

// sign is the tree's signature at a leaf.
func (g grown) sign(leaf int, msg []byte) []byte {
	parts := [][]byte{four(leaf), g.leaf(leaf).sign(g.seed, msg), four(kindOfHeight(g.height))}
	for place := g.leaves() + leaf; place > 1; place /= 2 {
		parts = append(parts, g.nodes[place^1])
	}
	return slices.Concat(parts...)
}

// public is the tree's public key.
func (g grown) public() public {
	return public{shape: g.shape, identity: g.identity, root: g.nodes[1]}
}
