package scheme

import (
	"bytes"
	"crypto/mldsa"
	"math"
	"slices"
	"strconv"
	"testing"

	"chancery/api"
	"chancery/dsa"
	"chancery/lms"
	"chancery/round"
	"chancery/shake"
)

// The chapter's example.
func TestExample(t *testing.T) {
	s := mustMake(t, 9, seed())
	for n := range 8 {
		if sig := mustSign(t, s, n, []byte("m"), draw()); !Verify(9, s.Public(), []byte("m"), sig) {
			t.Errorf("signature %d isn't verified", n)
		}
	}
	if sig, e := s.Sign(8, []byte("m"), draw()); e != api.ErrUsed || len(sig) != 0 {
		t.Errorf("signature 8: %d bytes, %d", len(sig), e)
	}
}

// P8.1: other schemes are refused, whatever the seed; then seeds that haven't 32 bytes.
func TestMakeRefused(t *testing.T) {
	lengths := []int{0, 1, 16, 24, 31, 33, 48, 64, 96, 256 + 32, 1 << 16, 1<<16 + 32}
	for _, scheme := range noSchemes {
		for _, n := range append(lengths, 32) {
			if s, e := Make(scheme, make([]byte, n)); e != api.ErrSet || s != nil {
				t.Errorf("Make(%d, %d bytes): %v, %d", scheme, n, s, e)
			}
		}
	}
	for _, scheme := range schemes {
		for _, n := range lengths {
			if s, e := Make(scheme, make([]byte, n)); e != api.ErrKey || s != nil {
				t.Errorf("Make(%d, %d bytes): %v, %d", scheme, n, s, e)
			}
		}
		if s, e := Make(scheme, nil); e != api.ErrKey || s != nil {
			t.Errorf("Make(%d, nil): %v, %d", scheme, s, e)
		}
	}
}

// P8.1: a signer tells its scheme, and how many signatures it has, before and behind signing.
func TestSchemeAndCount(t *testing.T) {
	inAll(t, func(t *testing.T, scheme int) {
		s := mustMake(t, scheme, seed())
		for range 2 {
			if s.Scheme() != scheme || s.Count() != counts[scheme] {
				t.Errorf("scheme %d, %d signatures", s.Scheme(), s.Count())
			}
			mustSign(t, s, 0, nil, draw())
			s.Sign(-1, nil, draw())
			s.Sign(0, nil, nil)
		}
	})
}

// P8.1: public keys are those of the chapter's words, of any seed.
func TestPublicByTheWords(t *testing.T) {
	inAll(t, func(t *testing.T, scheme int) {
		seeds := [][]byte{seed(), make([]byte, 32), bytes.Repeat([]byte{255}, 32)}
		for i := range int64(6) {
			seeds = append(seeds, drawn(i, 32))
		}
		for _, b := range seeds {
			want := slowPublic(t, scheme, b)
			s := mustMake(t, scheme, b)
			if !bytes.Equal(s.Public(), want) || !bytes.Equal(s.Public(), want) {
				t.Errorf("another public key of %x", b)
			}
		}
	})
}

// P8.1: each byte of the seed counts.
func TestPublicHangsOnTheSeed(t *testing.T) {
	inAll(t, func(t *testing.T, scheme int) {
		seen := map[string]int{string(mustMake(t, scheme, seed()).Public()): -1}
		for at := range 32 {
			b := seed()
			b[at] ^= 0x80
			pk := string(mustMake(t, scheme, b).Public())
			if other, ok := seen[pk]; ok {
				t.Errorf("with the bytes %d and %d changed the public keys are the same", at, other)
			}
			seen[pk] = at
		}
	})
}

// P8.1, P8.2: schemes 1 to 3 are what the standard library has: its keys of the seed, and its signatures, if the draw is noughts.
func TestLatticesOfTheLibrary(t *testing.T) {
	for scheme, parameters := range map[int]mldsa.Parameters{1: mldsa.MLDSA44(), 2: mldsa.MLDSA65(), 3: mldsa.MLDSA87()} {
		private, err := mldsa.NewPrivateKey(parameters, seed())
		if err != nil {
			t.Fatal(err)
		}
		s := mustMake(t, scheme, seed())
		if !bytes.Equal(s.Public(), private.PublicKey().Bytes()) {
			t.Errorf("scheme %d: another public key", scheme)
		}
		want, err := private.SignDeterministic([]byte("message"), nil)
		if err != nil {
			t.Fatal(err)
		}
		if got := mustSign(t, s, 0, []byte("message"), make([]byte, 32)); !bytes.Equal(got, want) {
			t.Errorf("scheme %d: another signature", scheme)
		}
		got := mustSign(t, s, 0, []byte("message"), draw())
		if err := mldsa.Verify(private.PublicKey(), []byte("message"), got, nil); err != nil || bytes.Equal(got, want) {
			t.Errorf("scheme %d: %v, or the draw isn't used", scheme, err)
		}
	}
}

// P8.2: signatures are those of the chapter's words, with every number, message and draw.
func TestSignByTheWords(t *testing.T) {
	inAll(t, func(t *testing.T, scheme int) {
		pk, s := slowPublic(t, scheme, seed()), mustMake(t, scheme, seed())
		for n := range max(counts[scheme], 3) {
			for i, msg := range [][]byte{nil, []byte("message"), drawn(int64(n), api.MaxMessage), drawn(int64(n), 1<<16+1)} {
				b := drawn(int64(100*n+i), 32)
				sig := mustSign(t, s, n, msg, b)
				if !bytes.Equal(sig, slowSign(t, scheme, seed(), n, msg, b)) {
					t.Errorf("another signature %d of %d bytes", n, len(msg))
				}
				if !Verify(scheme, pk, msg, sig) {
					t.Errorf("signature %d of %d bytes isn't verified", n, len(msg))
				}
			}
		}
	})
}

// P8.2: in the schemes that have as many as one likes the number changes nothing.
func TestNumbersOfManySignatures(t *testing.T) {
	inAll(t, func(t *testing.T, scheme int) {
		if counts[scheme] > 0 {
			return
		}
		s := mustMake(t, scheme, seed())
		want := mustSign(t, s, 0, []byte("m"), draw())
		for _, n := range []int{1, 7, 8, 15, 16, 200, 1 << 32, math.MaxInt} {
			if !bytes.Equal(mustSign(t, s, n, []byte("m"), draw()), want) {
				t.Errorf("number %d: another signature", n)
			}
		}
	})
}

// P8.2: in the others each number has a leaf of its own.
func TestNumbersOfLeaves(t *testing.T) {
	for n := range 16 {
		sig := mustSign(t, mustMake(t, 8, seed()), n, []byte("m"), draw())
		if leaves, ok := lms.Leaves(sig); !ok || !slices.Equal(leaves, []int{n / 4, n % 4}) {
			t.Errorf("scheme 8, number %d: %v, %t", n, leaves, ok)
		}
	}
	for n := range 8 {
		sig := mustSign(t, mustMake(t, 9, seed()), n, []byte("m"), draw())
		if leaves, ok := lms.Leaves(sig); !ok || !slices.Equal(leaves, []int{n}) {
			t.Errorf("scheme 9, number %d: %v, %t", n, leaves, ok)
		}
	}
}

// P8.2: which bytes of the draw count: all in schemes 1 to 3, the first n in 4 to 7, none in 8 and 9.
func TestDrawCounts(t *testing.T) {
	inAll(t, func(t *testing.T, scheme int) {
		used := 32
		if scheme >= 4 {
			used = hashesOf[scheme].n
		}
		s := mustMake(t, scheme, seed())
		want := mustSign(t, s, 5, []byte("m"), draw())
		for at := range 32 {
			b := draw()
			b[at] ^= 1
			if same := bytes.Equal(mustSign(t, s, 5, []byte("m"), b), want); same != (at >= used) {
				t.Errorf("with the byte %d changed it is the same: %t", at, same)
			}
		}
	})
}

// P8.2: draws that haven't 32 bytes are refused first, then numbers that are none.
func TestSignRefused(t *testing.T) {
	inAll(t, func(t *testing.T, scheme int) {
		s := mustMake(t, scheme, seed())
		none := []int{-1, -2, -8, -16, -1 << 32, math.MinInt}
		if count := counts[scheme]; count > 0 {
			none = append(none, count, count+1, 2*count, 256, 256+count-1, 1<<32, 1<<32+1, math.MaxInt)
		}
		for _, length := range []int{0, 1, 16, 24, 31, 33, 48, 64, 256 + 32, 1<<16 + 32} {
			for _, n := range append([]int{0, 1}, none...) {
				if sig, e := s.Sign(n, []byte("m"), make([]byte, length)); e != api.ErrKey || len(sig) != 0 {
					t.Errorf("Sign(%d), draw of %d bytes: %d bytes, %d", n, length, len(sig), e)
				}
			}
		}
		if sig, e := s.Sign(0, nil, nil); e != api.ErrKey || len(sig) != 0 {
			t.Errorf("Sign of nothing: %d bytes, %d", len(sig), e)
		}
		for _, n := range none {
			if sig, e := s.Sign(n, []byte("m"), draw()); e != api.ErrUsed || len(sig) != 0 {
				t.Errorf("Sign(%d): %d bytes, %d", n, len(sig), e)
			}
		}
	})
}

// P8.2: a signer isn't changed by signing: any order, and a number twice, are answered the same.
func TestSignerIsNotChanged(t *testing.T) {
	inAll(t, func(t *testing.T, scheme int) {
		s := mustMake(t, scheme, seed())
		for _, n := range []int{7, 0, 3, 3, 7, 0, 6, 0} {
			for _, msg := range []string{"m", "other", "m"} {
				if !bytes.Equal(mustSign(t, s, n, []byte(msg), draw()), slowSign(t, scheme, seed(), n, []byte(msg), draw())) {
					t.Errorf("number %d: another signature of %s", n, msg)
				}
			}
			s.Sign(-1, nil, draw())
			s.Sign(99, nil, draw())
			s.Sign(n, nil, nil)
			if !bytes.Equal(s.Public(), slowPublic(t, scheme, seed())) {
				t.Error("the public key is another one")
			}
		}
	})
}

// P8.2: nil and empty messages are one.
func TestSignEmpty(t *testing.T) {
	inAll(t, func(t *testing.T, scheme int) {
		s := mustMake(t, scheme, seed())
		sig := mustSign(t, s, 2, nil, draw())
		if !bytes.Equal(sig, mustSign(t, s, 2, []byte{}, draw())) {
			t.Error("nil and empty aren't one")
		}
		if pk := s.Public(); !Verify(scheme, pk, nil, sig) || !Verify(scheme, pk, []byte{}, sig) || Verify(scheme, pk, []byte{0}, sig) {
			t.Error("it isn't verified of nothing alone")
		}
	})
}

// hard is a secret key of layer 5 with which few tries are enough: all numbers of its t0 are far from 0.
func hard(set, far int, sk []byte) []byte {
	rows := map[int]int{44: 4, 65: 6, 87: 8}[set]
	signs := shake.Sum256([]byte("t0"), 32*rows)
	list := make([]int, 256*rows)
	for i := range list {
		list[i] = 4096 - far
		if signs[i/8]>>(i%8)&1 == 1 {
			list[i] = 4096 + far
		}
	}
	t0, _ := round.Pack(list, 13)
	return slices.Concat(sk[:len(sk)-len(t0)], t0)
}

// P8.2: 200 tries, no more and no fewer. No seed is known whose key needs so many, so the secret keys are made by hand;
// the messages are those of which the try 199, and the try 200, is the first that is enough.
func TestTries(t *testing.T) {
	for scheme, c := range map[int]struct{ far, last, late int }{1: {3700, 2846, 310}, 2: {4095, 848, 1686}, 3: {3900, 726, 254}} {
		set, s := latticeOf[scheme], mustMake(t, scheme, seed())
		s.secret = hard(set, c.far, s.secret)
		last, late := []byte(strconv.Itoa(c.last)), []byte(strconv.Itoa(c.late))
		want, e := dsa.Sign(set, s.secret, nil, last, draw(), 200)
		if _, fewer := dsa.Sign(set, s.secret, nil, last, draw(), 199); e != api.OK || fewer != api.ErrTries {
			t.Fatalf("scheme %d: the message %s needs no 200 tries", scheme, last)
		}
		if _, e := dsa.Sign(set, s.secret, nil, late, draw(), 201); e != api.OK {
			t.Fatalf("scheme %d: 201 tries aren't enough of the message %s", scheme, late)
		}
		if got, e := s.Sign(0, last, draw()); e != api.OK || !bytes.Equal(got, want) {
			t.Errorf("scheme %d: 200 tries: %d bytes, %d", scheme, len(got), e)
		}
		if got, e := s.Sign(0, late, draw()); e != api.ErrTries || len(got) != 0 {
			t.Errorf("scheme %d: 201 tries: %d bytes, %d", scheme, len(got), e)
		}
		if _, e := s.Sign(-1, late, draw()); e != api.ErrUsed {
			t.Errorf("scheme %d: the number is asked behind the tries: %d", scheme, e)
		}
		if _, e := s.Sign(0, late, draw()[:31]); e != api.ErrKey {
			t.Errorf("scheme %d: the draw is asked behind the tries: %d", scheme, e)
		}
	}
}

// P8.4: the sizes of the nine, and 0 of others.
func TestSize(t *testing.T) {
	for _, scheme := range schemes {
		if Size(scheme) != sizes[scheme] {
			t.Errorf("Size(%d) = %d", scheme, Size(scheme))
		}
	}
	for _, scheme := range noSchemes {
		if Size(scheme) != 0 {
			t.Errorf("Size(%d) = %d", scheme, Size(scheme))
		}
	}
}

// P8.4: each signature has its scheme's size.
func TestSizeHolds(t *testing.T) {
	inAll(t, func(t *testing.T, scheme int) {
		for i := range int64(3) {
			s := mustMake(t, scheme, drawn(i, 32))
			for n := range max(counts[scheme], 4) {
				sig := mustSign(t, s, n, drawn(int64(n), 100*n), drawn(int64(n), 32))
				if len(sig) != sizes[scheme] || len(sig) != Size(scheme) {
					t.Errorf("signature %d has %d bytes", n, len(sig))
				}
			}
		}
	})
}
