package scheme

import (
	"slices"
	"testing"

	"chancery/api"
	"chancery/dsa"
	"chancery/lms"
	"chancery/slh"
)

// P8.3: of another message, key or signature it is false, wherever a bit is another one.
func TestVerifyChanged(t *testing.T) {
	inAll(t, func(t *testing.T, scheme int) {
		s, msg := mustMake(t, scheme, seed()), []byte("message")
		pk, sig := s.Public(), mustSign(t, s, 3, msg, draw())
		if !Verify(scheme, pk, msg, sig) {
			t.Fatal("it isn't verified")
		}
		flips := func(what string, b []byte, step int, verify func(b []byte) bool) {
			for at := 0; at < len(b); at += step {
				other := slices.Clone(b)
				other[at] ^= 1 << (at % 8)
				if verify(other) {
					t.Errorf("%s, byte %d changed: it is verified", what, at)
				}
			}
			for _, other := range [][]byte{nil, b[:len(b)-1], b[1:], append(slices.Clone(b), 0), slices.Concat(b, b)} {
				if verify(other) {
					t.Errorf("%s of %d bytes: it is verified", what, len(other))
				}
			}
		}
		flips("message", msg, 1, func(b []byte) bool { return Verify(scheme, pk, b, sig) })
		flips("key", pk, 1+len(pk)/60, func(b []byte) bool { return Verify(scheme, b, msg, sig) })
		flips("signature", sig, 1+len(sig)/60, func(b []byte) bool { return Verify(scheme, pk, msg, b) })
	})
}

// P8.3: it is answered as the scheme's layer does, whose scheme the key and the signature ever are.
func TestVerifyAcross(t *testing.T) {
	msg := []byte("message")
	var pks, sigs [][]byte
	for _, scheme := range schemes {
		s := mustMake(t, scheme, seed())
		pks = append(pks, s.Public())
		sigs = append(sigs, mustSign(t, s, 1, msg, draw()))
	}
	inAll(t, func(t *testing.T, scheme int) {
		for i, pk := range pks {
			for j, sig := range sigs {
				right := i == j && (i+1 == scheme || scheme >= 8 && i+1 >= 8)
				if got := Verify(scheme, pk, msg, sig); got != right || got != slowVerify(scheme, pk, msg, sig) {
					t.Errorf("the key of scheme %d, the signature of scheme %d: %t", i+1, j+1, got)
				}
			}
		}
	})
	for _, scheme := range noSchemes {
		for i, pk := range pks {
			if Verify(scheme, pk, msg, sigs[i]) {
				t.Errorf("scheme %d verifies what scheme %d signed", scheme, i+1)
			}
		}
		if Verify(scheme, nil, nil, nil) {
			t.Errorf("scheme %d verifies nothing", scheme)
		}
	}
}

// P8.3: another seed's key doesn't verify.
func TestVerifyOtherKey(t *testing.T) {
	inAll(t, func(t *testing.T, scheme int) {
		s, other := mustMake(t, scheme, seed()), mustMake(t, scheme, draw())
		sig := mustSign(t, s, 0, []byte("m"), draw())
		if Verify(scheme, other.Public(), []byte("m"), sig) || !Verify(scheme, s.Public(), []byte("m"), sig) {
			t.Error("it isn't verified under its own key alone")
		}
	})
}

// P8.3: schemes 8 and 9 verify any key of layer 7, both the same.
func TestVerifyAnyTrees(t *testing.T) {
	for levels := 1; levels <= 3; levels++ {
		for height := 1; height <= 3; height++ {
			for _, width := range []int{1, 2, 4, 8} {
				k := lms.Key{Levels: levels, Height: height, Width: width, Identity: rising(7, 16), Seed: rising(70, 32)}
				pk, _ := lms.Public(k)
				sig, e := lms.Sign(k, k.Count()-1, []byte("m"))
				if e != api.OK {
					t.Fatal(e)
				}
				for _, scheme := range []int{8, 9} {
					if !Verify(scheme, pk, []byte("m"), sig) || Verify(scheme, pk, []byte("n"), sig) {
						t.Errorf("scheme %d: levels %d, height %d, width %d", scheme, levels, height, width)
					}
				}
			}
		}
	}
}

// P8.2, P8.3: signatures have no context: one that was made with one isn't verified, nor one without it under one.
func TestNoContext(t *testing.T) {
	msg := []byte("message")
	for scheme, set := range latticeOf {
		pk, sk, _ := slowKeys(scheme, seed())
		sig, _ := dsa.Sign(set, sk, []byte("c"), msg, draw(), 200)
		if Verify(scheme, pk, msg, sig) || !dsa.Verify(set, pk, []byte("c"), msg, sig) {
			t.Errorf("scheme %d verifies a signature with a context", scheme)
		}
		if sig := mustSign(t, mustMake(t, scheme, seed()), 0, msg, draw()); dsa.Verify(set, pk, []byte("c"), msg, sig) {
			t.Errorf("scheme %d signs with a context", scheme)
		}
	}
	for scheme, h := range hashesOf {
		pk, sk, _ := slowKeys(scheme, seed())
		sig, _ := slh.Sign(h.set, sk, []byte("c"), msg, draw()[:h.n])
		if Verify(scheme, pk, msg, sig) || !slh.Verify(h.set, pk, []byte("c"), msg, sig) {
			t.Errorf("scheme %d verifies a signature with a context", scheme)
		}
		if sig := mustSign(t, mustMake(t, scheme, seed()), 0, msg, draw()); slh.Verify(h.set, pk, []byte("c"), msg, sig) {
			t.Errorf("scheme %d signs with a context", scheme)
		}
	}
}
