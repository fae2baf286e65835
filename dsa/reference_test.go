package dsa

import (
	"crypto/sha3"
	"math/big"
	"slices"
	"sync"
)

// The chapter's words, slowly and without the layers below: polynomials are multiplied term by term,
// bits are packed one by one, SHAKE is the library's.

// slowSet is a row of the chapter's table, with what it says of bits.
type slowSet struct {
	k, l, e, t, b, g1, g2, w, c   int
	smallBits, maskBits, highBits int
}

var slowSets = map[int]slowSet{
	44: {4, 4, 2, 39, 78, 131072, 95232, 80, 32, 3, 18, 6},
	65: {6, 5, 4, 49, 196, 524288, 261888, 55, 48, 4, 20, 4},
	87: {8, 7, 2, 60, 120, 524288, 261888, 75, 64, 3, 20, 4},
}

func slowHash(n int, parts ...[]byte) []byte {
	h := sha3.NewSHAKE256()
	for _, p := range parts {
		h.Write(p)
	}
	out := make([]byte, n)
	h.Read(out)
	return out
}

// slowModulo is n modulo q, from 0 on; slowAround the one around 0.
func slowModulo(n int) int { return (n%q + q) % q }

func slowAround(n int) int {
	n = slowModulo(n)
	if n > (q-1)/2 {
		return n - q
	}
	return n
}

func slowNorm(v [][]int) int {
	most := 0
	for _, a := range v {
		for _, n := range a {
			most = max(most, slowAround(n), -slowAround(n))
		}
	}
	return most
}

// slowPack is numbers bit by bit.
func slowPack(list []int, bits int) []byte {
	out := make([]byte, (len(list)*bits+7)/8)
	for i, n := range list {
		for bit := range bits {
			at := i*bits + bit
			out[at/8] |= byte(n>>bit&1) << (at % 8)
		}
	}
	return out
}

func slowUnpack(b []byte, bits int) []int {
	list := make([]int, len(b)*8/bits)
	for i := range list {
		for bit := range bits {
			at := i*bits + bit
			list[i] |= int(b[at/8]) >> (at % 8) & 1 << bit
		}
	}
	return list
}

func slowCentred(v [][]int, top, bits int) []byte {
	var out []byte
	for _, a := range v {
		var list []int
		for _, n := range a {
			list = append(list, top-slowAround(n))
		}
		out = append(out, slowPack(list, bits)...)
	}
	return out
}

func slowUncentred(b []byte, n, top, bits int) [][]int {
	v := make([][]int, n)
	for i := range v {
		for _, x := range slowUnpack(b[i*32*bits:(i+1)*32*bits], bits) {
			v[i] = append(v[i], slowModulo(top-x))
		}
	}
	return v
}

// slowMul is the product of two polynomials: X^256 is -1.
func slowMul(a, b []int) []int {
	out := make([]int, 512)
	for i, x := range a {
		if x == 0 {
			continue
		}
		for j, y := range b {
			out[i+j] = (out[i+j] + x*y) % q
		}
	}
	for i := range 256 {
		out[i] = slowModulo(out[i] - out[i+256])
	}
	return out[:256]
}

func slowSum(a, b []int, times int) []int {
	out := make([]int, 256)
	for i := range out {
		out[i] = slowModulo(a[i] + times*b[i])
	}
	return out
}

// slowSums is a vector, and times the products of c with another one.
func slowSums(v [][]int, times int, c []int, s [][]int) [][]int {
	out := make([][]int, len(v))
	for i := range v {
		out[i] = slowSum(v[i], slowMul(c, s[i]), times)
	}
	return out
}

// slowInverse is, for each i, the powers of one divided by the place at which a transform's value number i is taken,
// divided by 256.
var slowInverse = sync.OnceValue(func() [][]int {
	power := func(n, k int) int {
		return int(new(big.Int).Exp(big.NewInt(int64(n)), big.NewInt(int64(k)), big.NewInt(q)).Int64())
	}
	rows := make([][]int, 256)
	for i := range rows {
		turned := 0
		for bit := range 8 {
			turned |= i >> bit & 1 << (7 - bit)
		}
		under := power(power(1753, 2*turned+1), q-2)
		n := power(256, q-2)
		for range 256 {
			rows[i] = append(rows[i], n)
			n = n * under % q
		}
	}
	return rows
})

// slowBack is the polynomial that has a transform.
func slowBack(values []int) []int {
	out := make([]int, 256)
	for i, row := range slowInverse() {
		for k, n := range row {
			out[k] = (out[k] + values[i]*n) % q
		}
	}
	return out
}

// slowMatrix is A, of polynomials, and all numbers that were drawn for it.
func (s slowSet) slowMatrix(rho []byte) (rows [][][]int, drawn []int) {
	rows = make([][][]int, s.k)
	for i := range s.k {
		for j := range s.l {
			h := sha3.NewSHAKE128()
			h.Write(append(slices.Clone(rho), byte(j), byte(i)))
			var list []int
			for len(list) < 256 {
				var b [3]byte
				h.Read(b[:])
				n := int(b[0]) + 256*int(b[1]) + 65536*int(b[2]%128)
				drawn = append(drawn, n)
				if n < q {
					list = append(list, n)
				}
			}
			rows[i] = append(rows[i], slowBack(list))
		}
	}
	return rows, drawn
}

// slowSmall is S(seed, from) and so many that follow.
func (s slowSet) slowSmall(seed []byte, from, many int) [][]int {
	v := make([][]int, many)
	for r := range v {
		h := sha3.NewSHAKE256()
		h.Write(append(slices.Clone(seed), byte((from+r)%256), byte((from+r)/256)))
		for len(v[r]) < 256 {
			var b [1]byte
			h.Read(b[:])
			for _, n := range []int{int(b[0] % 16), int(b[0] / 16)} {
				if s.e == 2 && n < 15 && len(v[r]) < 256 {
					v[r] = append(v[r], slowModulo(2-n%5))
				}
				if s.e == 4 && n < 9 && len(v[r]) < 256 {
					v[r] = append(v[r], slowModulo(4-n))
				}
			}
		}
	}
	return v
}

func (s slowSet) slowBall(short []byte) []int {
	h := sha3.NewSHAKE256()
	h.Write(short)
	var signs [8]byte
	h.Read(signs[:])
	c := make([]int, 256)
	for n := range s.t {
		i := 256 - s.t + n
		var b [1]byte
		for h.Read(b[:]); int(b[0]) > i; h.Read(b[:]) {
		}
		c[i] = c[b[0]]
		c[b[0]] = 1
		if signs[n/8]>>(n%8)&1 == 1 {
			c[b[0]] = q - 1
		}
	}
	return c
}

// slowDecompose cuts at 2g.
func slowDecompose(r, g int) (int, int) {
	r0 := r % (2 * g)
	if r0 > g {
		r0 -= 2 * g
	}
	if r-r0 == q-1 {
		return 0, r0 - 1
	}
	return (r - r0) / (2 * g), r0
}

// slowUse is the high part that a hint means.
func slowUse(h bool, r, g int) int {
	r1, r0 := slowDecompose(r, g)
	m := (q - 1) / (2 * g)
	switch {
	case h && r0 > 0:
		return (r1 + 1) % m
	case h:
		return (r1 + m - 1) % m
	}
	return r1
}

// slowTimes is a matrix times a vector.
func slowTimes(rows [][][]int, v [][]int) [][]int {
	out := make([][]int, len(rows))
	for i, row := range rows {
		out[i] = make([]int, 256)
		for j, a := range row {
			out[i] = slowSum(out[i], slowMul(a, v[j]), 1)
		}
	}
	return out
}

func slowKeys(set int, seed []byte) (pk, sk []byte) {
	s := slowSets[set]
	h := slowHash(128, seed, []byte{byte(s.k), byte(s.l)})
	rows, _ := s.slowMatrix(h[:32])
	s1, s2 := s.slowSmall(h[32:96], 0, s.l), s.slowSmall(h[32:96], s.l, s.k)
	t := slowTimes(rows, s1)
	pk = slices.Clone(h[:32])
	var low [][]int
	for i := range t {
		t[i] = slowSum(t[i], s2[i], 1)
		var t1, t0 []int
		for _, r := range t[i] {
			r0 := r % 8192
			if r0 > 4096 {
				r0 -= 8192
			}
			t1, t0 = append(t1, (r-r0)/8192), append(t0, slowModulo(r0))
		}
		pk = append(pk, slowPack(t1, 10)...)
		low = append(low, t0)
	}
	sk = slices.Concat(h[:32], h[96:], slowHash(64, pk), slowCentred(s1, s.e, s.smallBits), slowCentred(s2, s.e, s.smallBits), slowCentred(low, 4096, 13))
	return pk, sk
}

// slowMessage is mu.
func slowMessage(tr, ctx, msg []byte) []byte {
	return slowHash(64, tr, []byte{0, byte(len(ctx))}, ctx, msg)
}

// attempt is all that a try comes to, whether it is enough or not.
type attempt struct {
	short                        []byte
	c                            []int
	z                            [][]int
	lists                        [][]int
	normZ, normR0, normT0, hints int
}

// slowSigner is a secret key and a message, so that tries can be asked one by one.
type slowSigner struct {
	slowSet
	rows       [][][]int
	s1, s2, t0 [][]int
	mu, seed   []byte
}

// slowStart reads a secret key.
func slowStart(set int, sk, ctx, msg, rnd []byte) slowSigner {
	s := slowSets[set]
	rows, _ := s.slowMatrix(sk[:32])
	at1 := 128 + s.l*32*s.smallBits
	at2 := at1 + s.k*32*s.smallBits
	mu := slowMessage(sk[64:128], ctx, msg)
	return slowSigner{
		slowSet: s, rows: rows, mu: mu, seed: slowHash(64, sk[32:64], rnd, mu),
		s1: slowUncentred(sk[128:at1], s.l, s.e, s.smallBits),
		s2: slowUncentred(sk[at1:at2], s.k, s.e, s.smallBits),
		t0: slowUncentred(sk[at2:], s.k, 4096, 13),
	}
}

// slowTry is the try number n.
func (s slowSigner) slowTry(n int) attempt {
	y := make([][]int, s.l)
	for i := range y {
		r := n*s.l + i
		for _, x := range slowUnpack(slowHash(32*s.maskBits, s.seed, []byte{byte(r % 256), byte(r / 256)}), s.maskBits) {
			y[i] = append(y[i], slowModulo(s.g1-x))
		}
	}
	w := slowTimes(s.rows, y)
	var high []byte
	for _, a := range w {
		var list []int
		for _, r := range a {
			r1, _ := slowDecompose(r, s.g2)
			list = append(list, r1)
		}
		high = append(high, slowPack(list, s.highBits)...)
	}
	out := attempt{short: slowHash(s.c, s.mu, high)}
	out.c = s.slowBall(out.short)
	out.z = slowSums(y, 1, out.c, s.s1)
	out.normZ = slowNorm(out.z)
	rest := slowSums(w, -1, out.c, s.s2)
	for _, a := range rest {
		for _, r := range a {
			_, r0 := slowDecompose(r, s.g2)
			out.normR0 = max(out.normR0, r0, -r0)
		}
	}
	s.slowHints(rest, &out)
	return out
}

// slowHints adds what the last two questions hang on.
func (s slowSigner) slowHints(rest [][]int, out *attempt) {
	moved := slowSums(rest, 1, out.c, s.t0)
	out.lists = make([][]int, s.k)
	for i := range rest {
		for at := range 256 {
			difference := moved[i][at] - rest[i][at]
			out.normT0 = max(out.normT0, slowAround(difference), -slowAround(difference))
			before, _ := slowDecompose(moved[i][at], s.g2)
			after, _ := slowDecompose(rest[i][at], s.g2)
			if before != after {
				out.lists[i] = append(out.lists[i], at)
				out.hints++
			}
		}
	}
}

// enough tells whether a try is.
func (s slowSet) enough(a attempt) bool {
	return a.normZ < s.g1-s.b && a.normR0 < s.g2-s.b && a.normT0 < s.g2 && a.hints <= s.w
}

// signature is a try's, which may not be enough, but has no more hints than there may be.
func (s slowSet) signature(a attempt) []byte {
	return slices.Concat(a.short, slowCentred(a.z, s.g1, s.maskBits), slowPlaces(a.lists, s.w))
}

// slowPlaces is hints in bytes.
func slowPlaces(lists [][]int, most int) []byte {
	out := make([]byte, most+len(lists))
	used := 0
	for i, places := range lists {
		for _, at := range places {
			out[used] = byte(at)
			used++
		}
		out[most+i] = byte(used)
	}
	return out
}

// slowSign is the signature, and of which try it is; nothing and -1, if no one of them is enough.
func slowSign(set int, sk, ctx, msg, rnd []byte, tries int) ([]byte, int) {
	s := slowStart(set, sk, ctx, msg, rnd)
	for n := range tries {
		if a := s.slowTry(n); s.enough(a) {
			return s.signature(a), n
		}
	}
	return nil, -1
}

// slowRead is hints out of bytes, if these are what slowPlaces makes.
func slowRead(b []byte, lists, most int) ([][]int, bool) {
	out := make([][]int, lists)
	used := 0
	for i := range out {
		upTo := int(b[most+i])
		if upTo < used || upTo > most {
			return nil, false
		}
		for _, at := range b[used:upTo] {
			out[i] = append(out[i], int(at))
		}
		if !slices.IsSorted(out[i]) {
			return nil, false
		}
		used = upTo
	}
	return out, slices.Equal(slowPlaces(out, most), b) && !slices.ContainsFunc(out, func(list []int) bool {
		return len(slices.Compact(slices.Clone(list))) != len(list)
	})
}

// slowVerify is the verifying of what has the right lengths.
func slowVerify(set int, pk, ctx, msg, sig []byte) bool {
	s := slowSets[set]
	at := s.c + s.l*32*s.maskBits
	lists, ok := slowRead(sig[at:], s.k, s.w)
	z := slowUncentred(sig[s.c:at], s.l, s.g1, s.maskBits)
	if !ok || slowNorm(z) >= s.g1-s.b {
		return false
	}
	c := s.slowBall(sig[:s.c])
	rows, _ := s.slowMatrix(pk[:32])
	var high []byte
	for i, a := range slowTimes(rows, z) {
		t1 := slowUnpack(pk[32+320*i:352+320*i], 10)
		ct := slowMul(c, t1)
		var list []int
		for at := range 256 {
			list = append(list, slowUse(slices.Contains(lists[i], at), slowModulo(a[at]-ct[at]*8192), s.g2))
		}
		high = append(high, slowPack(list, s.highBits)...)
	}
	return slices.Equal(sig[:s.c], slowHash(s.c, slowMessage(slowHash(64, pk), ctx, msg), high))
}
