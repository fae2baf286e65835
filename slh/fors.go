package slh

// forsJoiner is that of the trees of Fors, whose places are counted through.
func (h hasher) forsJoiner(leaf int) joiner {
	return func(height, place int, left, right []byte) []byte {
		return h(kindForsNode, leaf, height, place, left, right)
	}
}

// forsPlace is the place of md in a tree of Fors.
func (n numbers) forsPlace(md []byte, tree int) int {
	place := 0
	for bit := tree * n.a; bit < (tree+1)*n.a; bit++ {
		place = place<<1 | int(md[bit/8]>>(7-bit%8)&1)
	}
	return place
}

// fors is the Fors signature of md at a leaf, and the key that comes of it.
func (s signer) fors(h hasher, leaf int, md []byte) (sig, key []byte) {
	roots := make([][]byte, s.k)
	for i := range roots {
		first := i << s.a
		secrets, leaves := make([][]byte, 1<<s.a), make([][]byte, 1<<s.a)
		for p := range leaves {
			secrets[p] = h(kindForsSecret, leaf, 0, first+p, s.secret)
			leaves[p] = h(kindForsNode, leaf, 0, first+p, secrets[p])
		}
		t := grow(leaves, first, h.forsJoiner(leaf))
		place := s.forsPlace(md, i)
		sig = append(sig, secrets[place]...)
		sig = append(sig, t.beside(place)...)
		roots[i] = t.root()
	}
	return sig, h(kindForsKey, leaf, 0, 0, roots...)
}

// forsKeyOf is the Fors key that comes of its signature.
func (n numbers) forsKeyOf(h hasher, leaf int, md, sig []byte) []byte {
	roots := make([][]byte, n.k)
	for i, branch := range pieces(sig, n.branchSize()) {
		secret, beside := branch[:n.n], branch[n.n:]
		place := i<<n.a + n.forsPlace(md, i)
		roots[i] = n.climb(h(kindForsNode, leaf, 0, place, secret), place, beside, h.forsJoiner(leaf))
	}
	return h(kindForsKey, leaf, 0, 0, roots...)
}
