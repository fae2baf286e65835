package sha

import (
	"math/big"
	"testing"
)

// primes are the first n.
func primes(n int) []int64 {
	var list []int64
	for p := int64(2); len(list) < n; p++ {
		if big.NewInt(p).ProbablyPrime(0) {
			list = append(list, p)
		}
	}
	return list
}

// fraction is the first 32 bits of the fraction of p's root of that degree: the low bits of the whole root of p * 2^(32 degree).
func fraction(p int64, degree uint) uint32 {
	target := new(big.Int).Lsh(big.NewInt(p), 32*degree)
	root := new(big.Int)
	for bit := 40; bit >= 0; bit-- {
		root.SetBit(root, bit, 1)
		if new(big.Int).Exp(root, big.NewInt(int64(degree)), nil).Cmp(target) > 0 {
			root.SetBit(root, bit, 0)
		}
	}
	return uint32(root.Uint64())
}

// P1.1: the tables are what the document says they are.
func TestTables(t *testing.T) {
	for i, p := range primes(len(steps)) {
		if want := fraction(p, 3); steps[i] != want {
			t.Errorf("K%d: %08x, want %08x", i, steps[i], want)
		}
	}
	for i, p := range primes(len(start)) {
		if want := fraction(p, 2); start[i] != want {
			t.Errorf("H%d: %08x, want %08x", i, start[i], want)
		}
	}
}
