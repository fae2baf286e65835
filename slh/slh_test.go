package slh

import (
	"bytes"
	"crypto/sha256"
	"encoding/hex"
	"fmt"
	"math"
	"math/rand"
	"slices"
	"strconv"
	"testing"

	"chancery/api"
)

var (
	sets   = []int{1, 2, 3, 4}
	noSets = []int{0, 5, -1, -2, -3, -4, 6, 8, 16, 44, 255, 256 + 1, 1<<32 + 1, 1<<32 + 4, math.MinInt, math.MinInt + 1, math.MaxInt}
	sizes  = map[int][3]int{1: {32, 64, 1312}, 2: {32, 64, 2112}, 3: {48, 96, 3144}, 4: {64, 128, 3232}}
)

// rising is so many bytes from one on.
func rising(first, n int) []byte {
	b := make([]byte, n)
	for i := range b {
		b[i] = byte(first + i)
	}
	return b
}

// drawn is so many bytes from a fixed seed.
func drawn(seed int64, n int) []byte {
	b := make([]byte, n)
	rand.New(rand.NewSource(seed)).Read(b)
	return b
}

// seedsOf are the seeds that the tests of a set share.
func seedsOf(set int) (s, f, p []byte) {
	n := slowSets[set].n
	return rising(0, n), rising(64, n), rising(128, n)
}

// keysOf are the keys of these seeds.
func keysOf(t *testing.T, set int) (pk, sk []byte) {
	t.Helper()
	s, f, p := seedsOf(set)
	return mustKeys(t, set, s, f, p)
}

// rndOf is a draw that the tests of a set share.
func rndOf(set int) []byte { return rising(200, slowSets[set].n) }

// mustKeys are keys, or the test ends.
func mustKeys(t *testing.T, set int, s, f, p []byte) (pk, sk []byte) {
	t.Helper()
	pk, sk, e := Keys(set, s, f, p)
	if e != api.OK {
		t.Fatalf("Keys(%d): %d", set, e)
	}
	return pk, sk
}

// mustSign is a signature, or the test ends.
func mustSign(t *testing.T, set int, sk, ctx, msg, rnd []byte) []byte {
	t.Helper()
	sig, e := Sign(set, sk, ctx, msg, rnd)
	if e != api.OK {
		t.Fatalf("Sign(%d): %d", set, e)
	}
	return sig
}

// inAll runs a test for each set.
func inAll(t *testing.T, test func(t *testing.T, set int)) {
	for _, set := range sets {
		t.Run(strconv.Itoa(set), func(t *testing.T) {
			t.Parallel()
			test(t, set)
		})
	}
}

// P6.1: the sizes of the four sets, and noughts of others.
func TestSizes(t *testing.T) {
	for set, want := range sizes {
		if pk, sk, sig := Sizes(set); [3]int{pk, sk, sig} != want {
			t.Errorf("Sizes(%d) = %d, %d, %d, want %v", set, pk, sk, sig, want)
		}
	}
	for _, set := range noSets {
		if pk, sk, sig := Sizes(set); pk != 0 || sk != 0 || sig != 0 {
			t.Errorf("Sizes(%d) = %d, %d, %d", set, pk, sk, sig)
		}
	}
}

// P6.1: what the other calls answer has these sizes.
func TestSizesHold(t *testing.T) {
	inAll(t, func(t *testing.T, set int) {
		pk, sk := keysOf(t, set)
		sig := mustSign(t, set, sk, nil, nil, rndOf(set))
		if got := [3]int{len(pk), len(sk), len(sig)}; got != sizes[set] {
			t.Errorf("%v, want %v", got, sizes[set])
		}
	})
}

// known are the root and the signature's SHA-256 of seedsOf, rndOf, "context" and "message". They come from a second
// program, in Python, that was written for this check from the standard's algorithms: they are no published vectors,
// as none have these numbers.
var known = map[int][2]string{
	1: {"aa748226ec0c7b3262087aa9e8d02435", "f7ab513e30d0cbfa177ec80c2e62c56d27063e212c6810a630e042fbf6ec5388"},
	2: {"c0090ba266bbd6068385c293ec89f9ee", "d278610f0ed29755cfe87edca13fd4f108080e1c564ad6935c8f2b5881cb1bcf"},
	3: {"cad8af97af567fb86261f9984f6c8eb6c6379a930d783926", "f281b9211998cfe28ce006f302ddf611709d765fa5fd89fbe1785e57a1c46cfe"},
	4: {"453ffd4f6fa076fb033b2ea852553e52ac20b1ba7d9b9d876a645e3caee372af", "063ac0743a423647372dba79bbf8e359f8fc9ac79a6f6f2ec83f409c6427c25d"},
}

// P6.1, P6.2: what the second program made.
func TestKnown(t *testing.T) {
	inAll(t, func(t *testing.T, set int) {
		pk, sk := keysOf(t, set)
		if got := hex.EncodeToString(pk[slowSets[set].n:]); got != known[set][0] {
			t.Errorf("the root is %s", got)
		}
		sig := mustSign(t, set, sk, []byte("context"), []byte("message"), rndOf(set))
		if got := sha256.Sum256(sig); hex.EncodeToString(got[:]) != known[set][1] {
			t.Errorf("another signature: %x", got)
		}
	})
}

// P6.1: both keys are those of the chapter's words; the seeds may be the same.
func TestKeysByTheWords(t *testing.T) {
	inAll(t, func(t *testing.T, set int) {
		n := slowSets[set].n
		s, f, p := seedsOf(set)
		zeroes, full := make([]byte, n), bytes.Repeat([]byte{255}, n)
		for i, seeds := range [][3][]byte{{s, f, p}, {p, s, f}, {zeroes, zeroes, zeroes}, {full, full, full}, {zeroes, full, zeroes}, {drawn(1, n), drawn(2, n), drawn(3, n)}, {s, s, s}} {
			pk, sk := mustKeys(t, set, seeds[0], seeds[1], seeds[2])
			wantPk, wantSk := slowKeys(set, seeds[0], seeds[1], seeds[2])
			if !bytes.Equal(pk, wantPk) || !bytes.Equal(sk, wantSk) {
				t.Errorf("other keys in case %d", i)
			}
		}
	})
}

// P6.1: the root hangs on every byte of s and of p, and on none of f, which stands in the secret key alone.
func TestKeysHangOnSeeds(t *testing.T) {
	inAll(t, func(t *testing.T, set int) {
		n := slowSets[set].n
		pk, sk := keysOf(t, set)
		for _, at := range []int{0, 1, n / 2, n - 1} {
			for which := range 3 {
				s, f, p := seedsOf(set)
				[][]byte{s, f, p}[which][at] ^= 1
				otherPk, otherSk := mustKeys(t, set, s, f, p)
				if same := bytes.Equal(pk[n:], otherPk[n:]); same != (which == 1) {
					t.Errorf("seed %d, byte %d: the same root: %t", which, at, same)
				}
				if bytes.Equal(sk, otherSk) || !bytes.Equal(otherSk, slices.Concat(s, f, p, otherPk[n:])) || !bytes.Equal(otherPk[:n], p) {
					t.Errorf("seed %d, byte %d: it stands elsewhere", which, at)
				}
			}
		}
	})
}

// P6.1: other sets and other seeds are refused, other sets first.
func TestKeysRefused(t *testing.T) {
	check := func(set int, lengths [3]int, want api.Errno) {
		t.Helper()
		pk, sk, e := Keys(set, make([]byte, lengths[0]), make([]byte, lengths[1]), make([]byte, lengths[2]))
		if e != want || len(pk) != 0 || len(sk) != 0 {
			t.Errorf("Keys(%d, %v bytes): %d bytes, %d bytes, %d, want %d", set, lengths, len(pk), len(sk), e, want)
		}
	}
	for _, set := range sets {
		n := slowSets[set].n
		for which := range 3 {
			for _, length := range []int{0, 1, 8, n - 1, n + 1, 2 * n, 3 * n, 1 << 17} {
				lengths := [3]int{n, n, n}
				lengths[which] = length
				check(set, lengths, api.ErrKey)
			}
		}
		check(set, [3]int{n - 1, n + 1, n}, api.ErrKey)
		check(set, [3]int{n - 1, n, n + 1}, api.ErrKey)
		check(set, [3]int{n - 1, n - 1, n - 1}, api.ErrKey)
		check(set, [3]int{n + 1, n + 1, n + 1}, api.ErrKey)
		if pk, sk, e := Keys(set, nil, nil, nil); e != api.ErrKey || pk != nil || sk != nil {
			t.Errorf("no seeds: %d", e)
		}
	}
	for _, set := range noSets {
		for _, n := range []int{0, 1, 16, 24, 32, 33} {
			check(set, [3]int{n, n, n}, api.ErrSet)
			check(set, [3]int{n, n + 1, n}, api.ErrSet)
		}
	}
}

// P6.2: signatures are those of the chapter's words.
func TestSignByTheWords(t *testing.T) {
	inAll(t, func(t *testing.T, set int) {
		n := slowSets[set].n
		_, sk := keysOf(t, set)
		for i, c := range []struct{ ctx, msg, rnd []byte }{
			{nil, nil, make([]byte, n)},
			{nil, []byte("message"), drawn(1, n)},
			{[]byte("c"), nil, drawn(2, n)},
			{drawn(3, 254), drawn(4, 1), drawn(5, n)},
			{drawn(6, 255), drawn(7, 4096), drawn(8, n)},
			{make([]byte, 255), drawn(9, 70000), bytes.Repeat([]byte{255}, n)},
		} {
			if got := mustSign(t, set, sk, c.ctx, c.msg, c.rnd); !bytes.Equal(got, slowSign(set, sk, c.ctx, c.msg, c.rnd)) {
				t.Errorf("another signature in case %d", i)
			}
		}
	})
}

// spot is where a message is signed: at a leaf of a tree, or at a place of a tree of Fors.
type spot struct {
	fors  bool
	tree  int
	place int
}

// spots are all those at which a message is signed.
func spots(set int, sk, msg, rnd []byte) []spot {
	k, M := slowSecret(set, sk), slowMessage(nil, msg)
	md, T, i := k.digest(k.slowR(rnd, M), M)
	all := []spot{{false, T, i}}
	for t, p := range k.places(md) {
		all = append(all, spot{true, t, p})
	}
	return all
}

// P6.2: messages are signed at every leaf of every tree, the first and the last too, and at every place of every tree of Fors.
func TestSignEverywhere(t *testing.T) {
	inAll(t, func(t *testing.T, set int) {
		w := slowSets[set]
		pk, sk := keysOf(t, set)
		seen := map[spot]bool{}
		for n := 0; len(seen) < 1<<w.h+w.k<<w.a; n++ {
			if n == 5000 {
				t.Fatalf("only %d are reached", len(seen))
			}
			msg := []byte(strconv.Itoa(n))
			all := spots(set, sk, msg, rndOf(set))
			if !slices.ContainsFunc(all, func(s spot) bool { return !seen[s] }) {
				continue
			}
			for _, s := range all {
				seen[s] = true
			}
			sig := mustSign(t, set, sk, nil, msg, rndOf(set))
			if !bytes.Equal(sig, slowSign(set, sk, nil, msg, rndOf(set))) {
				t.Errorf("another signature of message %d, at %v", n, all)
			}
			if !Verify(set, pk, nil, msg, sig) {
				t.Errorf("message %d isn't verified, at %v", n, all)
			}
		}
		last := spot{false, 1<<(w.h-w.g()) - 1, 1<<w.g() - 1}
		if !seen[spot{false, 0, 0}] || !seen[last] || !seen[spot{true, w.k - 1, 1<<w.a - 1}] {
			t.Error("the first or the last isn't reached")
		}
	})
}

// P6.2: each of key, context, message and rnd counts.
func TestSignHangsOnAll(t *testing.T) {
	inAll(t, func(t *testing.T, set int) {
		n := slowSets[set].n
		_, sk := keysOf(t, set)
		sign := func(sk []byte, ctx, msg string, rnd []byte) []byte {
			return mustSign(t, set, sk, []byte(ctx), []byte(msg), rnd)
		}
		all := [][]byte{
			sign(sk, "c", "m", rndOf(set)),
			sign(sk, "d", "m", rndOf(set)),
			sign(sk, "c", "n", rndOf(set)),
			sign(sk, "c", "m", make([]byte, n)),
			sign(sk, "", "cm", rndOf(set)),
			sign(sk, "cm", "", rndOf(set)),
		}
		for part := range 4 {
			other := slices.Clone(sk)
			other[part*n+n-1] ^= 1
			all = append(all, sign(other, "c", "m", rndOf(set)))
		}
		for i, a := range all {
			for j, b := range all {
				if i != j && bytes.Equal(a, b) {
					t.Errorf("signatures %d and %d are the same", i, j)
				}
			}
		}
		if !bytes.Equal(all[0], sign(sk, "c", "m", rndOf(set))) {
			t.Error("the same call is answered otherwise")
		}
	})
}

// P6.2: a secret key that no call has made signs by what stands in it, the root too.
func TestSignWithOtherKeys(t *testing.T) {
	inAll(t, func(t *testing.T, set int) {
		n := slowSets[set].n
		pk, right := keysOf(t, set)
		keys := [][]byte{make([]byte, 4*n), bytes.Repeat([]byte{255}, 4*n)}
		for seed := range int64(4) {
			keys = append(keys, drawn(seed, 4*n))
		}
		for part := range 4 {
			other := slices.Clone(right)
			copy(other[part*n:], drawn(9, n))
			keys = append(keys, other)
		}
		for i, sk := range keys {
			sig := mustSign(t, set, sk, []byte("c"), []byte("m"), rndOf(set))
			if !bytes.Equal(sig, slowSign(set, sk, []byte("c"), []byte("m"), rndOf(set))) {
				t.Errorf("another signature with key %d", i)
			}
			onlyF := bytes.Equal(sk[2*n:], pk) && bytes.Equal(sk[:n], right[:n])
			if Verify(set, pk, []byte("c"), []byte("m"), sig) != onlyF {
				t.Errorf("of key %d's signature it is told that it is verified: %t", i, !onlyF)
			}
		}
	})
}

// P6.2: other sets, other keys and draws, and long contexts are refused, in this order.
func TestSignRefused(t *testing.T) {
	check := func(set, key, context, rnd int, want api.Errno) {
		t.Helper()
		sig, e := Sign(set, make([]byte, key), make([]byte, context), []byte("m"), make([]byte, rnd))
		if e != want || (e == api.OK) != (len(sig) > 0) {
			t.Errorf("Sign(%d, key %d, context %d, rnd %d bytes): %d bytes, %d, want %d", set, key, context, rnd, len(sig), e, want)
		}
	}
	for _, set := range sets {
		n := slowSets[set].n
		for _, context := range []int{0, 255, 256, 512, 1 << 17} {
			for _, wrong := range []int{0, 1, n, 2 * n, 3 * n, 4*n - 1, 4*n + 1, 8 * n} {
				check(set, wrong, context, n, api.ErrKey)
				check(set, wrong, context, n-1, api.ErrKey)
			}
			for _, wrong := range []int{0, 1, n - 1, n + 1, 2 * n, 4 * n} {
				check(set, 4*n, context, wrong, api.ErrKey)
			}
		}
		for _, context := range []int{256, 257, 511, 512, 1 << 16, 1 << 17} {
			check(set, 4*n, context, n, api.ErrCtx)
		}
		for _, context := range []int{0, 1, 254, 255} {
			check(set, 4*n, context, n, api.OK)
		}
		if sig, e := Sign(set, nil, nil, nil, nil); e != api.ErrKey || sig != nil {
			t.Errorf("Sign(%d) of nothing: %d", set, e)
		}
	}
	for _, set := range noSets {
		for _, n := range []int{0, 16, 24, 32} {
			check(set, 4*n, 0, n, api.ErrSet)
			check(set, 4*n, 256, n, api.ErrSet)
			check(set, 4*n+1, 0, n, api.ErrSet)
			check(set, 4*n, 256, n+1, api.ErrSet)
		}
	}
}

// P6.2: digits whose sum is least and greatest, which no hash is likely to have, and where it goes over a half byte.
func TestDigits(t *testing.T) {
	for _, set := range sets {
		n, _ := find(set)
		for _, c := range []struct {
			fill byte
			tail string
		}{{0xff, "[0 0 0]"}, {0, map[int]string{16: "[1 14 0]", 24: "[2 13 0]", 32: "[3 12 0]"}[n.n]}} {
			b := bytes.Repeat([]byte{c.fill}, n.n)
			got := n.digits(b)
			if !slices.Equal(got, slowDigits(b)) || fmt.Sprint(got[2*n.n:]) != c.tail {
				t.Errorf("%d: of %x: %v", set, c.fill, got)
			}
		}
		b := bytes.Repeat([]byte{0xff}, n.n)
		for i := range 2 * n.n * 15 {
			if i%2 == 0 {
				b[i/2%n.n] -= 0x10
			} else {
				b[i/2%n.n]--
			}
			if !slices.Equal(n.digits(b), slowDigits(b)) {
				t.Errorf("%d: of %x: %v", set, b, n.digits(b))
			}
		}
	}
}
