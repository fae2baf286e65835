package slh

import (
	"bytes"
	"crypto/sha3"
	"encoding/binary"
	"slices"
)

// A slow one by the chapter's words, on the library's SHAKE256.

type slowSet struct{ n, h, d, a, k int }

var slowSets = map[int]slowSet{
	1: {16, 2, 2, 2, 3},
	2: {16, 6, 3, 3, 5},
	3: {24, 4, 2, 3, 6},
	4: {32, 3, 1, 4, 6},
}

func (w slowSet) g() int   { return w.h / w.d }
func (w slowSet) len() int { return 2*w.n + 3 }

// slowKey is a set with a secret key's parts, or with a public key's alone.
type slowKey struct {
	slowSet
	S, F, P, root []byte
}

// slowSecret is what a secret key's bytes mean.
func slowSecret(set int, sk []byte) slowKey {
	n := slowSets[set].n
	return slowKey{slowSets[set], sk[:n], sk[n : 2*n], sk[2*n : 3*n], sk[3*n:]}
}

// slowPublic is what a public key's bytes mean.
func slowPublic(set int, pk []byte) slowKey {
	n := slowSets[set].n
	return slowKey{slowSet: slowSets[set], P: pk[:n], root: pk[n:]}
}

func slowHash(n int, parts ...[]byte) []byte { return sha3.SumSHAKE256(bytes.Join(parts, nil), n) }

// where is an address's layer and tree.
type where struct{ L, T int }

func (w where) address(kind, a, b, c int) []byte {
	out := binary.BigEndian.AppendUint32(nil, uint32(w.L))
	out = append(out, 0, 0, 0, 0)
	out = binary.BigEndian.AppendUint64(out, uint64(w.T))
	for _, word := range []int{kind, a, b, c} {
		out = binary.BigEndian.AppendUint32(out, uint32(word))
	}
	return out
}

// at is H(P, address, parts, n).
func (k slowKey) at(address []byte, parts ...[]byte) []byte {
	return slowHash(k.n, k.P, address, bytes.Join(parts, nil))
}

func (k slowKey) wotsSecret(w where, i, c int) []byte { return k.at(w.address(5, i, c, 0), k.S) }

// wotsEnd is behind the steps from one on to 14.
func (k slowKey) wotsEnd(w where, i, c, from int, x []byte) []byte {
	for j := from; j <= 14; j++ {
		x = k.at(w.address(0, i, c, j), x)
	}
	return x
}

func (k slowKey) wotsKey(w where, i int) []byte {
	var ends [][]byte
	for c := range k.len() {
		ends = append(ends, k.wotsEnd(w, i, c, 0, k.wotsSecret(w, i, c)))
	}
	return k.at(w.address(1, i, 0, 0), ends...)
}

func slowDigits(b []byte) []int {
	var digits []int
	s := 0
	for at := range 2 * len(b) {
		digit := int(b[at/2]) / []int{16, 1}[at%2] % 16
		digits = append(digits, digit)
		s += 15 - digit
	}
	return append(digits, s/256%16, s/16%16, s%16)
}

func (k slowKey) wotsSign(w where, i int, b []byte) [][]byte {
	var sig [][]byte
	for c, digit := range slowDigits(b) {
		x := k.wotsSecret(w, i, c)
		for j := 0; j <= digit-1; j++ {
			x = k.at(w.address(0, i, c, j), x)
		}
		sig = append(sig, x)
	}
	return sig
}

func (k slowKey) wotsFrom(w where, i int, b []byte, sig [][]byte) []byte {
	var ends [][]byte
	for c, digit := range slowDigits(b) {
		ends = append(ends, k.wotsEnd(w, i, c, digit, sig[c]))
	}
	return k.at(w.address(1, i, 0, 0), ends...)
}

// node is that of the tree w at a height and place.
func (k slowKey) node(w where, z, i int) []byte {
	if z == 0 {
		return k.wotsKey(w, i)
	}
	return k.at(w.address(2, 0, z, i), k.node(w, z-1, 2*i), k.node(w, z-1, 2*i+1))
}

func (k slowKey) treeSign(w where, i int, b []byte) [][]byte {
	sig := k.wotsSign(w, i, b)
	for z := range k.g() {
		sig = append(sig, k.node(w, z, i>>z^1))
	}
	return sig
}

func (k slowKey) treeFrom(w where, i int, b []byte, sig [][]byte) []byte {
	node := k.wotsFrom(w, i, b, sig[:k.len()])
	for z, beside := range sig[k.len():] {
		if i%2 == 0 {
			node = k.at(w.address(2, 0, z+1, i/2), node, beside)
		} else {
			node = k.at(w.address(2, 0, z+1, i/2), beside, node)
		}
		i /= 2
	}
	return node
}

func (k slowKey) forsSecret(w where, i, x int) []byte { return k.at(w.address(6, i, 0, x), k.S) }

func (k slowKey) forsNode(w where, i, z, x int) []byte {
	if z == 0 {
		return k.at(w.address(3, i, 0, x), k.forsSecret(w, i, x))
	}
	return k.at(w.address(3, i, z, x), k.forsNode(w, i, z-1, 2*x), k.forsNode(w, i, z-1, 2*x+1))
}

func (k slowKey) forsKey(w where, i int) []byte {
	var roots [][]byte
	for t := range k.k {
		roots = append(roots, k.forsNode(w, i, k.a, t))
	}
	return k.at(w.address(4, i, 0, 0), roots...)
}

// places are the numbers of a bits each of md, from the highest bit on.
func (w slowSet) places(md []byte) []int {
	var bits []int
	for _, b := range md {
		for bit := 7; bit >= 0; bit-- {
			bits = append(bits, int(b>>bit)%2)
		}
	}
	var places []int
	for t := range w.k {
		p := 0
		for _, bit := range bits[t*w.a : (t+1)*w.a] {
			p = 2*p + bit
		}
		places = append(places, p)
	}
	return places
}

func (k slowKey) forsSign(w where, i int, md []byte) [][]byte {
	var sig [][]byte
	for t, p := range k.places(md) {
		x := p + t<<k.a
		sig = append(sig, k.forsSecret(w, i, x))
		for z := range k.a {
			sig = append(sig, k.forsNode(w, i, z, x>>z^1))
		}
	}
	return sig
}

func (k slowKey) forsFrom(w where, i int, md []byte, sig [][]byte) []byte {
	var roots [][]byte
	for t, p := range k.places(md) {
		x := p + t<<k.a
		part := sig[t*(k.a+1) : (t+1)*(k.a+1)]
		node := k.at(w.address(3, i, 0, x), part[0])
		for z, beside := range part[1:] {
			if x%2 == 0 {
				node = k.at(w.address(3, i, z+1, x/2), node, beside)
			} else {
				node = k.at(w.address(3, i, z+1, x/2), beside, node)
			}
			x /= 2
		}
		roots = append(roots, node)
	}
	return k.at(w.address(4, i, 0, 0), roots...)
}

// slowMessage is M.
func slowMessage(ctx, msg []byte) []byte {
	return slices.Concat([]byte{0, byte(len(ctx))}, ctx, msg)
}

// digest is md, the tree and the leaf.
func (k slowKey) digest(R, M []byte) (md []byte, T, i int) {
	whole := func(bits int) int {
		if bits%8 > 0 {
			return bits/8 + 1
		}
		return bits / 8
	}
	m1, m2, m3 := whole(k.k*k.a), whole(k.h-k.g()), whole(k.g())
	b := slowHash(m1+m2+m3, R, k.P, k.root, M)
	for _, c := range b[m1 : m1+m2] {
		T = 256*T + int(c)
	}
	for _, c := range b[m1+m2:] {
		i = 256*i + int(c)
	}
	return b[:m1], T % (1 << (k.h - k.g())), i % (1 << k.g())
}

// slowKeys are both keys.
func slowKeys(set int, S, F, P []byte) (pk, sk []byte) {
	k := slowKey{slowSet: slowSets[set], S: S, F: F, P: P}
	root := k.node(where{k.d - 1, 0}, k.g(), 0)
	return slices.Concat(P, root), slices.Concat(S, F, P, root)
}

// slowR is R.
func (k slowKey) slowR(rnd, M []byte) []byte { return slowHash(k.n, k.F, rnd, M) }

// slowSign is the signature.
func slowSign(set int, sk, ctx, msg, rnd []byte) []byte {
	k, M := slowSecret(set, sk), slowMessage(ctx, msg)
	R := k.slowR(rnd, M)
	md, T, i := k.digest(R, M)
	sig := append([][]byte{R}, k.forsSign(where{0, T}, i, md)...)
	b := k.forsKey(where{0, T}, i)
	for L := range k.d {
		sig = append(sig, k.treeSign(where{L, T}, i, b)...)
		b = k.node(where{L, T}, k.g(), 0)
		i, T = T%(1<<k.g()), T/(1<<k.g())
	}
	return bytes.Join(sig, nil)
}

// slowVerify is whether what comes at the end is the root.
func slowVerify(set int, pk, ctx, msg, sig []byte) bool {
	k, M := slowPublic(set, pk), slowMessage(ctx, msg)
	parts := slices.Collect(slices.Chunk(sig, k.n))
	md, T, i := k.digest(parts[0], M)
	fors := k.k * (k.a + 1)
	b := k.forsFrom(where{0, T}, i, md, parts[1:1+fors])
	parts = parts[1+fors:]
	for L := range k.d {
		size := k.len() + k.g()
		b = k.treeFrom(where{L, T}, i, b, parts[:size])
		parts = parts[size:]
		i, T = T%(1<<k.g()), T/(1<<k.g())
	}
	return bytes.Equal(b, k.root)
}
