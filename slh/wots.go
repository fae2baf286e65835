package slh

const lastDigit = 15 // as many steps lead from a secret to its end

// digits are the half bytes of what is signed and, behind them, those of a sum that falls when one of them rises:
// nobody can raise them all.
func (n numbers) digits(signed []byte) []int {
	list := make([]int, 0, n.chains())
	sum := 0
	for _, b := range signed {
		high, low := int(b>>4), int(b&15)
		list = append(list, high, low)
		sum += lastDigit - high + lastDigit - low
	}
	return append(list, sum>>8&15, sum>>4&15, sum&15)
}

// steps takes x from one step to the one ahead of another.
func (h hasher) steps(leaf, chain, from, to int, x []byte) []byte {
	for step := from; step < to; step++ {
		x = h(kindWotsStep, leaf, chain, step, x)
	}
	return x
}

// wotsKey is the Wots key at a leaf.
func (s signer) wotsKey(h hasher, leaf int) []byte {
	ends := make([][]byte, s.chains())
	for c := range ends {
		ends[c] = h.steps(leaf, c, 0, lastDigit, h(kindWotsSecret, leaf, c, 0, s.secret))
	}
	return h(kindWotsKey, leaf, 0, 0, ends...)
}

// wots is the Wots signature at a leaf.
func (s signer) wots(h hasher, leaf int, signed []byte) []byte {
	sig := make([]byte, 0, s.wotsSize())
	for c, digit := range s.digits(signed) {
		sig = append(sig, h.steps(leaf, c, 0, digit, h(kindWotsSecret, leaf, c, 0, s.secret))...)
	}
	return sig
}

// wotsKeyOf is the Wots key that comes of its signature.
func (n numbers) wotsKeyOf(h hasher, leaf int, signed, sig []byte) []byte {
	digits := n.digits(signed)
	ends := make([][]byte, n.chains())
	for c, x := range pieces(sig, n.n) {
		ends[c] = h.steps(leaf, c, digits[c], lastDigit, x)
	}
	return h(kindWotsKey, leaf, 0, 0, ends...)
}
