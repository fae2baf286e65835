package slh

// A signer makes signatures in one set.
type signer struct {
	numbers
	public, secret []byte // the seeds P and S
}

// tree is one of those whose leaves are Wots keys.
func (s signer) tree(layer, tree int) levels {
	h := s.at(s.public, layer, tree)
	leaves := make([][]byte, 1<<s.height())
	for i := range leaves {
		leaves[i] = s.wotsKey(h, i)
	}
	return grow(leaves, 0, h.joiner())
}

// sign is the signature behind R.
func (s signer) sign(md []byte, tree, leaf int) []byte {
	sig, signed := s.fors(s.at(s.public, 0, tree), leaf, md)
	for layer := range s.d {
		t := s.tree(layer, tree)
		sig = append(sig, s.wots(s.at(s.public, layer, tree), leaf, signed)...)
		sig = append(sig, t.beside(leaf)...)
		signed = t.root()
		tree, leaf = s.up(tree)
	}
	return sig
}

// rootOf is the root that comes of the signature behind R.
func (n numbers) rootOf(public, sig, md []byte, tree, leaf int) []byte {
	fors := n.k * n.branchSize()
	node := n.forsKeyOf(n.at(public, 0, tree), leaf, md, sig[:fors])
	for layer, storey := range pieces(sig[fors:], n.storeySize()) {
		h := n.at(public, layer, tree)
		wots, beside := storey[:n.wotsSize()], storey[n.wotsSize():]
		node = n.climb(n.wotsKeyOf(h, leaf, node, wots), leaf, beside, h.joiner())
		tree, leaf = n.up(tree)
	}
	return node
}
