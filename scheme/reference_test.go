package scheme

import (
	"crypto/sha3"
	"math"
	"math/rand"
	"strconv"
	"testing"

	"chancery/api"
	"chancery/dsa"
	"chancery/lms"
	"chancery/slh"
)

var (
	schemes   = []int{1, 2, 3, 4, 5, 6, 7, 8, 9}
	noSchemes = []int{0, 10, -1, -2, -8, -9, 11, 16, 44, 65, 87, 255, 256 + 1, 256 + 9, 1<<32 + 1, 1<<32 + 9, math.MinInt, math.MinInt + 1, math.MaxInt}
	latticeOf = map[int]int{1: 44, 2: 65, 3: 87}
	hashesOf  = map[int]struct{ set, n int }{4: {1, 16}, 5: {2, 16}, 6: {3, 24}, 7: {4, 32}}
	treesOf   = map[int]lms.Key{8: {Levels: 2, Height: 2, Width: 4}, 9: {Levels: 1, Height: 3, Width: 2}}
	counts    = map[int]int{8: 16, 9: 8}
	sizes     = map[int]int{1: 2420, 2: 3309, 3: 4627, 4: 1312, 5: 2112, 6: 3144, 7: 3232, 8: 4564, 9: 4400}
)

// rising is so many bytes from one on.
func rising(first, n int) []byte {
	b := make([]byte, n)
	for i := range b {
		b[i] = byte(first + i)
	}
	return b
}

// drawn is so many bytes from a fixed seed.
func drawn(seed int64, n int) []byte {
	b := make([]byte, n)
	rand.New(rand.NewSource(seed)).Read(b)
	return b
}

// seed and draw are those that the tests share.
func seed() []byte { return rising(1, 32) }
func draw() []byte { return rising(200, 32) }

// mustMake is a signer, or the test ends.
func mustMake(t *testing.T, scheme int, seed []byte) *Signer {
	t.Helper()
	s, e := Make(scheme, seed)
	if e != api.OK || s == nil {
		t.Fatalf("Make(%d): %v, %d", scheme, s, e)
	}
	return s
}

// mustSign is a signature, or the test ends.
func mustSign(t *testing.T, s *Signer, n int, msg, draw []byte) []byte {
	t.Helper()
	sig, e := s.Sign(n, msg, draw)
	if e != api.OK {
		t.Fatalf("Sign(%d) of scheme %d: %d", n, s.Scheme(), e)
	}
	return sig
}

// inAll runs a test for each scheme.
func inAll(t *testing.T, test func(t *testing.T, scheme int)) {
	for _, scheme := range schemes {
		t.Run(strconv.Itoa(scheme), func(t *testing.T) {
			t.Parallel()
			test(t, scheme)
		})
	}
}

// slowTrees is the key of layer 7 that the chapter's words make of a seed.
func slowTrees(scheme int, seed []byte) lms.Key {
	k, b := treesOf[scheme], sha3.SumSHAKE256(seed, 48)
	k.Identity, k.Seed = b[:16], b[16:48]
	return k
}

// slowKeys are the public key and, of schemes 1 to 7, the secret one that the chapter's words make of a seed.
func slowKeys(scheme int, seed []byte) (pk, sk []byte, e api.Errno) {
	if set, ok := latticeOf[scheme]; ok {
		return dsa.Keys(set, seed)
	}
	if h, ok := hashesOf[scheme]; ok {
		b := sha3.SumSHAKE256(seed, 3*h.n)
		return slh.Keys(h.set, b[:h.n], b[h.n:h.n+h.n], b[h.n+h.n:])
	}
	pk, e = lms.Public(slowTrees(scheme, seed))
	return pk, nil, e
}

// slowPublic is the public key.
func slowPublic(t *testing.T, scheme int, seed []byte) []byte {
	t.Helper()
	pk, _, e := slowKeys(scheme, seed)
	if e != api.OK {
		t.Fatalf("scheme %d: %d", scheme, e)
	}
	return pk
}

// slowSign is the signature by the chapter's words.
func slowSign(t *testing.T, scheme int, seed []byte, n int, msg, draw []byte) []byte {
	t.Helper()
	_, sk, _ := slowKeys(scheme, seed)
	var sig []byte
	var e api.Errno
	switch scheme {
	case 1, 2, 3:
		sig, e = dsa.Sign(latticeOf[scheme], sk, nil, msg, draw, 200)
	case 4, 5, 6, 7:
		h := hashesOf[scheme]
		sig, e = slh.Sign(h.set, sk, nil, msg, draw[:h.n])
	default:
		sig, e = lms.Sign(slowTrees(scheme, seed), n, msg)
	}
	if e != api.OK {
		t.Fatalf("scheme %d: %d", scheme, e)
	}
	return sig
}

// slowVerify asks the scheme's layer.
func slowVerify(scheme int, pk, msg, sig []byte) bool {
	if set, ok := latticeOf[scheme]; ok {
		return dsa.Verify(set, pk, nil, msg, sig)
	}
	if h, ok := hashesOf[scheme]; ok {
		return slh.Verify(h.set, pk, nil, msg, sig)
	}
	return lms.Verify(pk, msg, sig)
}
