package lms

import (
	"bytes"
	"fmt"
	"math"
	"math/rand"
	"slices"
	"testing"

	"chancery/api"
)

var (
	bits     = []int{1, 2, 4, 8}
	noBits   = []int{0, -1, 3, 5, 6, 7, 9, 16, 32, -8, 256 + 4, 1<<32 + 4, math.MinInt, math.MaxInt}
	noLevels = []int{0, -1, 4, 5, 256 + 1, 1<<32 + 1, math.MinInt, math.MaxInt}
	noHeight = []int{0, -1, 7, 8, 10, 64, 256 + 2, 1<<32 + 2, math.MinInt, math.MaxInt}
)

// rising is so many bytes from one on.
func rising(first, n int) []byte {
	b := make([]byte, n)
	for i := range b {
		b[i] = byte(first + i)
	}
	return b
}

// drawn is so many bytes from a fixed seed.
func drawn(seed int64, n int) []byte {
	b := make([]byte, n)
	rand.New(rand.NewSource(seed)).Read(b)
	return b
}

// keyOf is a key with the identity and the seed that the tests share.
func keyOf(levels, height, width int) Key {
	return Key{Levels: levels, Height: height, Width: width, Identity: rising(1, 16), Seed: rising(100, 32)}
}

// title is what a test of a key is called.
func title(k Key) string { return fmt.Sprint(k.Levels, "-", k.Height, "-", k.Width) }

// mustPublic is a public key, or the test ends.
func mustPublic(t *testing.T, k Key) []byte {
	t.Helper()
	pk, e := Public(k)
	if e != api.OK {
		t.Fatalf("Public(%s): %d", title(k), e)
	}
	return pk
}

// mustSign is a signature, or the test ends.
func mustSign(t *testing.T, k Key, n int, msg []byte) []byte {
	t.Helper()
	sig, e := Sign(k, n, msg)
	if e != api.OK {
		t.Fatalf("Sign(%s, %d): %d", title(k), n, e)
	}
	return sig
}

// inAll runs a test for each key.
func inAll(t *testing.T, keys []Key, test func(t *testing.T, k Key)) {
	for _, k := range keys {
		t.Run(title(k), func(t *testing.T) {
			t.Parallel()
			test(t, k)
		})
	}
}

// small are the keys of all levels and widths whose trees are of the height 1, and some of the height 2.
func small() []Key {
	var keys []Key
	for levels := 1; levels <= 3; levels++ {
		for _, w := range bits {
			keys = append(keys, keyOf(levels, 1, w))
		}
		keys = append(keys, keyOf(levels, 2, 4))
	}
	return keys
}

// P7.1: the example of the chapter.
func TestExample(t *testing.T) {
	k := Key{1, 2, 4, make([]byte, 16), make([]byte, 32)}
	if k.Count() != 4 {
		t.Errorf("it has %d signatures", k.Count())
	}
	pk := mustPublic(t, k)
	if len(pk) != 4+56 {
		t.Errorf("the public key has %d bytes", len(pk))
	}
	for n := range 4 {
		if sig := mustSign(t, k, n, []byte("m")); len(sig) != 2256 || !Verify(pk, []byte("m"), sig) {
			t.Errorf("signature %d: %d bytes", n, len(sig))
		}
	}
	if _, e := Sign(k, 4, nil); e != api.ErrUsed {
		t.Errorf("signature 4: %d", e)
	}
}

// P7.1: how many signatures right keys have.
func TestCount(t *testing.T) {
	for levels := 1; levels <= 3; levels++ {
		for height := 1; height <= 6; height++ {
			for _, w := range bits {
				want := 1
				for range height * levels {
					want *= 2
				}
				if k := keyOf(levels, height, w); k.Count() != want {
					t.Errorf("%s: %d, want %d", title(k), k.Count(), want)
				}
			}
		}
	}
}

// wrongKeys are those that aren't right in one thing, and in several.
func wrongKeys() []Key {
	var keys []Key
	change := func(set func(k *Key)) {
		for _, k := range []Key{keyOf(1, 1, 1), keyOf(1, 2, 4), keyOf(3, 6, 8), keyOf(2, 5, 2)} {
			set(&k)
			keys = append(keys, k)
		}
	}
	for _, n := range noLevels {
		change(func(k *Key) { k.Levels = n })
	}
	for _, n := range noHeight {
		change(func(k *Key) { k.Height = n })
	}
	for _, n := range noBits {
		change(func(k *Key) { k.Width = n })
	}
	for _, n := range []int{0, 1, 15, 17, 32, 1 << 16, 1 << 17} {
		change(func(k *Key) { k.Identity = make([]byte, n) })
	}
	for _, n := range []int{0, 1, 16, 31, 33, 64, 1 << 17} {
		change(func(k *Key) { k.Seed = make([]byte, n) })
	}
	change(func(k *Key) { k.Identity, k.Seed = k.Seed, k.Identity })
	change(func(k *Key) { k.Identity = nil })
	change(func(k *Key) { k.Seed = nil })
	change(func(k *Key) { k.Levels, k.Height = -1, -1 })
	change(func(k *Key) { k.Levels, k.Height, k.Width = 0, 0, 0 })
	change(func(k *Key) { k.Identity, k.Seed = make([]byte, 15), make([]byte, 33) })
	return append(keys, Key{})
}

// P7.1: keys that aren't right have no signatures and no public key, whatever the number.
func TestWrongKeys(t *testing.T) {
	for i, k := range wrongKeys() {
		if k.Count() != 0 {
			t.Errorf("key %d has %d signatures", i, k.Count())
		}
		if pk, e := Public(k); e != api.ErrKey || len(pk) != 0 {
			t.Errorf("Public of key %d: %d bytes, %d", i, len(pk), e)
		}
		for _, n := range []int{0, 1, -1, 1 << 18, math.MinInt, math.MaxInt} {
			if sig, e := Sign(k, n, []byte("m")); e != api.ErrKey || len(sig) != 0 {
				t.Errorf("Sign(key %d, %d): %d bytes, %d", i, n, len(sig), e)
			}
		}
	}
}

// P7.1: numbers ahead of the first and behind the last are none.
func TestNumbers(t *testing.T) {
	for _, k := range append(small(), keyOf(1, 6, 1), keyOf(3, 6, 8), keyOf(2, 5, 4)) {
		count := k.Count()
		for _, n := range []int{-1, -2, -count, count, count + 1, 2 * count, 1 << 32, 1<<32 + 1, -1 << 32, math.MinInt, math.MaxInt} {
			if sig, e := Sign(k, n, []byte("m")); e != api.ErrUsed || len(sig) != 0 {
				t.Errorf("Sign(%s, %d): %d bytes, %d", title(k), n, len(sig), e)
			}
		}
	}
	for _, n := range []int{0, 1} {
		if sig, e := Sign(keyOf(1, 1, 1), n, nil); e != api.OK || len(sig) == 0 {
			t.Errorf("Sign of %d: %d", n, e)
		}
	}
}

// P7.1: public keys are those of the chapter's words, of every height and width.
func TestPublicByTheWords(t *testing.T) {
	var keys []Key
	for height := 1; height <= 6; height++ {
		for _, w := range bits {
			keys = append(keys, keyOf(1+height%3, height, w))
		}
	}
	inAll(t, keys, func(t *testing.T, k Key) {
		want := slowPublic(k)
		if pk := mustPublic(t, k); !bytes.Equal(pk, want) || len(pk) != 60 {
			t.Errorf("%x, want %x", pk, want)
		}
		kind := []byte{0xe0, 0, 0, byte(k.Height)}
		if k.Height == 5 {
			kind[0] = 0
		}
		if !bytes.Equal(want[4:8], kind) {
			t.Errorf("the type is %x", want[4:8])
		}
	})
}

// P7.1: the levels change nothing in the first tree's public key; identity and seed do, in every byte.
func TestPublicHangsOnAll(t *testing.T) {
	one := mustPublic(t, keyOf(1, 2, 2))
	for levels := 1; levels <= 3; levels++ {
		if pk := mustPublic(t, keyOf(levels, 2, 2)); !bytes.Equal(pk, slices.Concat(u4(levels), one[4:])) {
			t.Errorf("%d levels: %x", levels, pk)
		}
	}
	differs := func(k Key, what string, at int) {
		if pk := mustPublic(t, k); bytes.Equal(pk[28:], one[28:]) || !bytes.Equal(pk[12:28], k.Identity) {
			t.Errorf("%s, byte %d: %x", what, at, pk)
		}
	}
	for at := range 16 {
		k := keyOf(1, 2, 2)
		k.Identity[at] ^= 1
		differs(k, "identity", at)
	}
	for at := range 32 {
		k := keyOf(1, 2, 2)
		k.Seed[at] ^= 1
		differs(k, "seed", at)
	}
}

// someNumbers are all of a key that has few, else the first, the last and some in between.
func someNumbers(k Key) []int {
	count := k.Count()
	if count <= 8 {
		return []int{0, 1, 2, 3, 4, 5, 6, 7}[:count]
	}
	return []int{0, 1, count / 3, count/2 - 1, count / 2, count - 2, count - 1}
}

// P7.1: signatures are those of the chapter's words, at every number of small keys.
func TestSignByTheWords(t *testing.T) {
	inAll(t, small(), func(t *testing.T, k Key) {
		for _, n := range someNumbers(k) {
			for _, msg := range [][]byte{nil, []byte("message"), drawn(int64(n), 4096)} {
				if sig := mustSign(t, k, n, msg); !bytes.Equal(sig, slowSign(k, n, msg)) {
					t.Errorf("another signature %d of %d bytes", n, len(msg))
				}
			}
		}
	})
}

// P7.1: so are those of greater keys, of every height and width, the greatest too.
func TestSignHigh(t *testing.T) {
	keys := []Key{keyOf(3, 6, 1), keyOf(3, 6, 2), keyOf(3, 6, 4), keyOf(3, 6, 8), keyOf(2, 5, 1), keyOf(2, 5, 4), keyOf(3, 5, 2)}
	for height := 2; height <= 6; height++ {
		for _, w := range bits {
			keys = append(keys, keyOf(1, height, w))
		}
	}
	inAll(t, keys, func(t *testing.T, k Key) {
		pk, count := slowPublic(k), k.Count()
		for _, n := range []int{count - 1, count * 5 / 7} {
			sig := mustSign(t, k, n, []byte("message"))
			if !bytes.Equal(sig, slowSign(k, n, []byte("message"))) {
				t.Errorf("another signature %d", n)
			}
			if !Verify(pk, []byte("message"), sig) {
				t.Errorf("signature %d isn't verified", n)
			}
			if leaves, ok := Leaves(sig); !ok || !slices.Equal(leaves, slowLeaves(k, n)) {
				t.Errorf("signature %d has the leaves %v, %t", n, leaves, ok)
			}
		}
	})
}

// P7.1: identities and seeds of any bytes make keys.
func TestSignOtherSeeds(t *testing.T) {
	noughts, full := make([]byte, 32), bytes.Repeat([]byte{255}, 32)
	for i, c := range [][2][]byte{{noughts, noughts}, {full, full}, {noughts, full}, {full, noughts}, {drawn(1, 32), drawn(2, 32)}, {drawn(3, 32), drawn(4, 32)}} {
		k := Key{Levels: 2, Height: 1, Width: 2, Identity: c[0][:16], Seed: c[1]}
		if pk := mustPublic(t, k); !bytes.Equal(pk, slowPublic(k)) {
			t.Errorf("another public key in case %d", i)
		}
		if sig := mustSign(t, k, 2, []byte("m")); !bytes.Equal(sig, slowSign(k, 2, []byte("m"))) {
			t.Errorf("another signature in case %d", i)
		}
	}
}

// P7.1: an empty message is one, nil or not, and the same call is answered the same.
func TestSignEmpty(t *testing.T) {
	k := keyOf(2, 2, 4)
	sig := mustSign(t, k, 7, nil)
	if !bytes.Equal(sig, mustSign(t, k, 7, []byte{})) || !bytes.Equal(sig, mustSign(t, k, 7, nil)) {
		t.Error("nil and empty aren't one")
	}
	if pk := mustPublic(t, k); !Verify(pk, nil, sig) || !Verify(pk, []byte{}, sig) || Verify(pk, []byte{0}, sig) {
		t.Error("it isn't verified of nothing alone")
	}
}

// P7.1: lengths of messages around a block of the hash, and great ones.
func TestSignLengths(t *testing.T) {
	k := keyOf(1, 1, 2)
	pk := mustPublic(t, k)
	for _, length := range []int{1, 9, 10, 55, 56, 63, 64, 65, 73, 74, api.MaxMessage, api.MaxMessage + 1, 1 << 20} {
		msg := drawn(int64(length), length)
		sig := mustSign(t, k, 1, msg)
		if !bytes.Equal(sig, slowSign(k, 1, msg)) || !Verify(pk, msg, sig) {
			t.Errorf("%d bytes", length)
		}
	}
}

// P7.1: digits whose checksum is least and greatest, which no hash is likely to have, and those in between.
func TestDigits(t *testing.T) {
	for _, bits := range bits {
		w, ok := widthOfBits(bits)
		if !ok || w.kind != slowWidths[bits].kind || w.chains != slowWidths[bits].p {
			t.Errorf("the width %d is %v, %t", bits, w, ok)
		}
		digest := bytes.Repeat([]byte{255}, 32)
		for at := range 32 * 8 {
			if got := w.digits(digest); !slices.Equal(got, slowDigits(bits, digest)) {
				t.Errorf("%d: of %x: %v", bits, digest, got)
			}
			digest[at/8] ^= 1 << (at * 5 % 8)
		}
		if got := w.digits(digest); !slices.Equal(got, slowDigits(bits, make([]byte, 32))) {
			t.Errorf("%d: of noughts: %v", bits, got)
		}
		for seed := range int64(50) {
			if b := drawn(seed, 32); !slices.Equal(w.digits(b), slowDigits(bits, b)) {
				t.Errorf("%d: of %x: %v", bits, b, w.digits(b))
			}
		}
	}
}
