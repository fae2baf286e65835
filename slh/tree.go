package slh

// A joiner hashes two nodes into the one above them, which stands at this height and place; it knows in which tree it stands.
type joiner func(height, place int, left, right []byte) []byte

// joiner is that of the tree of a hasher.
func (h hasher) joiner() joiner {
	return func(height, place int, left, right []byte) []byte {
		return h(kindTreeNode, 0, height, place, left, right)
	}
}

// levels are the nodes of a tree by their heights, from the leaves on.
type levels [][][]byte

// grow is the tree over leaves, the first of which stands at a place.
func grow(leaves [][]byte, first int, join joiner) levels {
	t := levels{leaves}
	for level := leaves; len(level) > 1; level = t[len(t)-1] {
		above := make([][]byte, len(level)/2)
		for i := range above {
			above[i] = join(len(t), first>>len(t)+i, level[2*i], level[2*i+1])
		}
		t = append(t, above)
	}
	return t
}

// root is the highest node.
func (t levels) root() []byte { return t[len(t)-1][0] }

// beside are the nodes that are needed to climb from a leaf to the root, one behind the other.
func (t levels) beside(leaf int) []byte {
	var all []byte
	for height, level := range t[:len(t)-1] {
		all = append(all, level[leaf>>height^1]...)
	}
	return all
}

// climb is the root above the leaf at a place, the nodes beside being given.
func (n numbers) climb(leaf []byte, place int, beside []byte, join joiner) []byte {
	node := leaf
	for height, other := range pieces(beside, n.n) {
		left, right := node, other
		if place>>height&1 == 1 {
			left, right = other, node
		}
		node = join(height+1, place>>(height+1), left, right)
	}
	return node
}
