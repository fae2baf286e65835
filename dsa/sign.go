package dsa

import (
	"slices"

	"chancery/ring"
	"chancery/round"
)

// secretHead is how many bytes of a secret key stand ahead of its vectors: rho, K and tr.
const secretHead = seedSize + seedSize + longHash

// key is a secret key that was opened.
type key struct {
	numbers
	rho, own, tr []byte
	s1, s2, t0   [][]int
}

// open reads a secret key: false, if it hasn't its length or its small numbers aren't small.
func (n numbers) open(sk []byte) (key, bool) {
	if len(sk) != n.secretSize() {
		return key{}, false
	}
	vectors := sk[secretHead:]
	cut1 := n.l * packedSize(n.smallBits())
	cut2 := cut1 + n.k*packedSize(n.smallBits())
	k := key{
		numbers: n,
		rho:     sk[:seedSize],
		own:     sk[seedSize : 2*seedSize],
		tr:      sk[2*seedSize : secretHead],
		s1:      uncentred(vectors[:cut1], n.e, n.smallBits()),
		s2:      uncentred(vectors[cut1:cut2], n.e, n.smallBits()),
		t0:      uncentred(vectors[cut2:], 1<<(cutBits-1), cutBits),
	}
	return k, norm(k.s1) <= n.e && norm(k.s2) <= n.e
}

// signing is what the tries for one message have in common; s1, s2 and t0 are transforms.
type signing struct {
	numbers
	rows       [][][]int
	s1, s2, t0 [][]int
	mu, seed   []byte
}

// start makes ready to sign a message.
func (k key) start(ctx, msg, rnd []byte) signing {
	mu := digest(k.tr, ctx, msg)
	return signing{
		numbers: k.numbers,
		rows:    k.matrix(k.rho),
		s1:      there(k.s1),
		s2:      there(k.s2),
		t0:      there(k.t0),
		mu:      mu,
		seed:    hash(longHash, k.own, rnd, mu),
	}
}

// try is the signature of the try with that number, and whether it is enough.
func (s signing) try(number int) ([]byte, bool) {
	y := vector(s.l, func(i int) []int { return s.mask(s.seed, number*s.l+i) })
	w := back(times(s.rows, there(y)))
	short := s.commit(s.mu, s.high(w))
	c, _ := ring.There(s.ball(short))
	z := add(y, back(scale(c, s.s1)))
	if norm(z) >= s.g1-s.b {
		return nil, false
	}
	rest := sub(w, back(scale(c, s.s2)))
	if norm(s.low(rest)) >= s.g2-s.b {
		return nil, false
	}
	moved := back(scale(c, s.t0))
	if norm(moved) >= s.g2 {
		return nil, false
	}
	hints, few := round.PackHints(s.hints(moved, add(rest, moved)), s.w)
	if !few {
		return nil, false
	}
	return slices.Concat(short, centred(z, s.g1, s.maskBits()), hints), true
}

// high is the high parts of a vector.
func (n numbers) high(a [][]int) [][]int {
	return numberwise(a, func(r int) int { high, _ := round.Decompose(r, n.g2); return high })
}

// low is the low parts of a vector.
func (n numbers) low(a [][]int) [][]int {
	return numberwise(a, func(r int) int { _, low := round.Decompose(r, n.g2); return low })
}

// hints tells of each number whether taking away what it was moved by changes its high part.
func (n numbers) hints(moved, a [][]int) [][]bool {
	lists := make([][]bool, len(a))
	for i, list := range a {
		lists[i] = make([]bool, len(list))
		for at, r := range list {
			lists[i][at] = round.Hint((q-moved[i][at])%q, r, n.g2)
		}
	}
	return lists
}

// hinted is the high parts that the hints mean.
func (n numbers) hinted(hints [][]bool, a [][]int) [][]int {
	return vector(len(a), func(i int) []int {
		list := make([]int, len(a[i]))
		for at, r := range a[i] {
			list[at] = round.Use(hints[i][at], r, n.g2)
		}
		return list
	})
}
