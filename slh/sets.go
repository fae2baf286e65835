package slh

// numbers are those of a set.
type numbers struct {
	n int // bytes of a seed and of a hash
	h int // height of all the trees that stand one upon the other
	d int // how many of them there are
	a int // height of a tree of Fors
	k int // how many trees Fors has
}

// find is the numbers of a set, and whether it is one.
func find(set int) (numbers, bool) {
	switch set {
	case 1:
		return numbers{n: 16, h: 2, d: 2, a: 2, k: 3}, true
	case 2:
		return numbers{n: 16, h: 6, d: 3, a: 3, k: 5}, true
	case 3:
		return numbers{n: 24, h: 4, d: 2, a: 3, k: 6}, true
	case 4:
		return numbers{n: 32, h: 3, d: 1, a: 4, k: 6}, true
	}
	return numbers{}, false
}

// height is that of one tree: g.
func (n numbers) height() int { return n.h / n.d }

// chains is how many numbers a Wots key has: len.
func (n numbers) chains() int { return 2*n.n + 3 }

// publicSize is how many bytes a public key has.
func (n numbers) publicSize() int { return 2 * n.n }

// secretSize is how many bytes a secret key has.
func (n numbers) secretSize() int { return 4 * n.n }

// branchSize is how many bytes of a Fors signature are of one tree.
func (n numbers) branchSize() int { return n.n * (1 + n.a) }

// wotsSize is how many bytes a Wots signature has.
func (n numbers) wotsSize() int { return n.n * n.chains() }

// storeySize is how many bytes a tree signature has.
func (n numbers) storeySize() int { return n.wotsSize() + n.n*n.height() }

// signatureSize is how many bytes a signature has.
func (n numbers) signatureSize() int { return n.n + n.k*n.branchSize() + n.d*n.storeySize() }

// up is where the root of a tree is signed, the tree's number being given: in which tree above, at which leaf.
func (n numbers) up(tree int) (above, leaf int) {
	return tree >> n.height(), tree & (1<<n.height() - 1)
}
