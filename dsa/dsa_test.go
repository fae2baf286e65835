package dsa

import (
	"bytes"
	"crypto/mldsa"
	"encoding/binary"
	"encoding/hex"
	"fmt"
	"math"
	"math/rand"
	"slices"
	"strconv"
	"testing"

	"chancery/api"
)

var (
	sets   = []int{44, 65, 87}
	noSets = []int{0, 1, -1, 2, 3, 43, 45, 64, 66, 86, 88, -44, -65, -87, 128, 256 + 44, 1<<32 + 44, math.MinInt, math.MaxInt}
	sizes  = map[int][3]int{44: {1312, 2560, 2420}, 65: {1952, 4032, 3309}, 87: {2592, 4896, 4627}}
	zeroes = make([]byte, 32)
)

// seedOf is a seed that the tests of a set share.
func seedOf(set int) []byte { return bytes.Repeat([]byte{byte(set)}, 32) }

// numbered is a seed with a number in its first bytes.
func numbered(n int) []byte {
	seed := make([]byte, 32)
	binary.LittleEndian.PutUint64(seed, uint64(n))
	return seed
}

// rising is so many bytes from 0 on.
func rising(n int) []byte {
	b := make([]byte, n)
	for i := range b {
		b[i] = byte(i)
	}
	return b
}

// drawn is so many bytes from a fixed seed.
func drawn(seed int64, n int) []byte {
	b := make([]byte, n)
	rand.New(rand.NewSource(seed)).Read(b)
	return b
}

// mustKeys are keys, or the test ends.
func mustKeys(t *testing.T, set int, seed []byte) (pk, sk []byte) {
	t.Helper()
	pk, sk, e := Keys(set, seed)
	if e != api.OK {
		t.Fatalf("Keys(%d): %d", set, e)
	}
	return pk, sk
}

// mustSign is a signature, or the test ends.
func mustSign(t *testing.T, set int, sk, ctx, msg, rnd []byte) []byte {
	t.Helper()
	sig, e := Sign(set, sk, ctx, msg, rnd, api.MaxTries)
	if e != api.OK {
		t.Fatalf("Sign(%d): %d", set, e)
	}
	return sig
}

// inAll runs a test for each set.
func inAll(t *testing.T, test func(t *testing.T, set int)) {
	for _, set := range sets {
		t.Run(strconv.Itoa(set), func(t *testing.T) {
			t.Parallel()
			test(t, set)
		})
	}
}

// library is the library's kind of a set.
func library(set int) mldsa.Parameters {
	switch set {
	case 44:
		return mldsa.MLDSA44()
	case 65:
		return mldsa.MLDSA65()
	}
	return mldsa.MLDSA87()
}

// P5.1: the sizes of the three sets, and noughts of others.
func TestSizes(t *testing.T) {
	for set, want := range sizes {
		if pk, sk, sig := Sizes(set); [3]int{pk, sk, sig} != want {
			t.Errorf("Sizes(%d) = %d, %d, %d, want %v", set, pk, sk, sig, want)
		}
	}
	for _, set := range noSets {
		if pk, sk, sig := Sizes(set); pk != 0 || sk != 0 || sig != 0 {
			t.Errorf("Sizes(%d) = %d, %d, %d", set, pk, sk, sig)
		}
	}
}

// P5.1: what the other calls answer has these sizes.
func TestSizesHold(t *testing.T) {
	inAll(t, func(t *testing.T, set int) {
		pk, sk := mustKeys(t, set, seedOf(set))
		sig := mustSign(t, set, sk, nil, nil, zeroes)
		if got := [3]int{len(pk), len(sk), len(sig)}; got != sizes[set] {
			t.Errorf("%v, want %v", got, sizes[set])
		}
	})
}

// P5.2: the chapter's example.
func TestKeysExample(t *testing.T) {
	pk, _ := mustKeys(t, 44, rising(32))
	if got := hex.EncodeToString(pk[:4]); got != "d7b2b472" {
		t.Errorf("the public key begins with %s", got)
	}
}

// P5.2: both keys are those of the chapter's words.
func TestKeysByTheWords(t *testing.T) {
	inAll(t, func(t *testing.T, set int) {
		for _, seed := range [][]byte{zeroes, rising(32), bytes.Repeat([]byte{255}, 32), seedOf(set), drawn(1, 32)} {
			pk, sk := mustKeys(t, set, seed)
			wantPk, wantSk := slowKeys(set, seed)
			if !bytes.Equal(pk, wantPk) || !bytes.Equal(sk, wantSk) {
				t.Errorf("other keys of the seed %x", seed)
			}
		}
	})
}

// P5.2: the public keys are those that the library makes.
func TestKeysOfTheLibrary(t *testing.T) {
	inAll(t, func(t *testing.T, set int) {
		for n := range 40 {
			seed := drawn(int64(n), 32)
			key, err := mldsa.NewPrivateKey(library(set), seed)
			if err != nil {
				t.Fatal(err)
			}
			if pk, _ := mustKeys(t, set, seed); !bytes.Equal(pk, key.PublicKey().Bytes()) {
				t.Errorf("another key of the seed %x", seed)
			}
		}
	})
}

// P5.2: in the draws of A the number q is passed over and q - 1 is kept. Of these seeds they come up.
func TestKeysAtTheEdgeOfDraws(t *testing.T) {
	for set, seeds := range map[int]map[int]int{44: {2869: q, 122: q - 1}, 65: {1836: q, 966: q - 1}, 87: {52: q, 4355: q - 1}} {
		for n, edge := range seeds {
			pk, sk := mustKeys(t, set, numbered(n))
			_, all := slowSets[set].slowMatrix(pk[:32])
			if !slices.Contains(all, edge) {
				t.Errorf("%d: the seed %d does not draw %d", set, n, edge)
			}
			wantPk, wantSk := slowKeys(set, numbered(n))
			if !bytes.Equal(pk, wantPk) || !bytes.Equal(sk, wantSk) {
				t.Errorf("%d: other keys of the seed %d", set, n)
			}
		}
	}
}

// P5.2: other sets and other seeds are refused, other sets first.
func TestKeysRefused(t *testing.T) {
	check := func(set, length int, want api.Errno) {
		if pk, sk, e := Keys(set, make([]byte, length)); e != want || len(pk) != 0 || len(sk) != 0 {
			t.Errorf("Keys(%d, %d bytes): %d bytes, %d bytes, %d, want %d", set, length, len(pk), len(sk), e, want)
		}
	}
	for _, length := range []int{0, 1, 16, 31, 33, 64, 128, 1 << 17} {
		for _, set := range sets {
			check(set, length, api.ErrKey)
		}
	}
	for _, set := range noSets {
		for _, length := range []int{0, 31, 32, 33} {
			check(set, length, api.ErrSet)
		}
	}
	if pk, sk, e := Keys(44, nil); e != api.ErrKey || pk != nil || sk != nil {
		t.Errorf("no seed: %d", e)
	}
}

// P5.3: signatures are those of the chapter's words.
func TestSignByTheWords(t *testing.T) {
	inAll(t, func(t *testing.T, set int) {
		_, sk := mustKeys(t, set, seedOf(set))
		for n, c := range []struct{ ctx, msg, rnd []byte }{
			{nil, nil, zeroes},
			{nil, []byte("message"), drawn(1, 32)},
			{[]byte("c"), nil, drawn(2, 32)},
			{drawn(3, 254), drawn(4, 1), drawn(5, 32)},
			{drawn(6, 255), drawn(7, 4096), drawn(8, 32)},
			{make([]byte, 255), drawn(9, 70000), bytes.Repeat([]byte{255}, 32)},
		} {
			want, _ := slowSign(set, sk, c.ctx, c.msg, c.rnd, 100)
			if got := mustSign(t, set, sk, c.ctx, c.msg, c.rnd); !bytes.Equal(got, want) {
				t.Errorf("another signature in case %d", n)
			}
		}
	})
}

// P5.3: with noughts for rnd they are those that the library makes.
func TestSignOfTheLibrary(t *testing.T) {
	inAll(t, func(t *testing.T, set int) {
		for n := range 60 {
			seed, ctx, msg := drawn(int64(n), 32), drawn(int64(n), n*255/59), drawn(int64(n), n*n)
			key, _ := mldsa.NewPrivateKey(library(set), seed)
			want, err := key.SignDeterministic(msg, &mldsa.Options{Context: string(ctx)})
			if err != nil {
				t.Fatal(err)
			}
			_, sk := mustKeys(t, set, seed)
			if got := mustSign(t, set, sk, ctx, msg, zeroes); !bytes.Equal(got, want) {
				t.Errorf("another signature in case %d", n)
			}
		}
	})
}

// P5.3: each of set, key, context, message and rnd counts.
func TestSignHangsOnAll(t *testing.T) {
	_, sk := mustKeys(t, 44, seedOf(44))
	_, other := mustKeys(t, 44, zeroes)
	all := [][]byte{
		mustSign(t, 44, sk, []byte("c"), []byte("m"), zeroes),
		mustSign(t, 44, other, []byte("c"), []byte("m"), zeroes),
		mustSign(t, 44, sk, []byte("d"), []byte("m"), zeroes),
		mustSign(t, 44, sk, []byte("c"), []byte("n"), zeroes),
		mustSign(t, 44, sk, []byte("c"), []byte("m"), rising(32)),
		mustSign(t, 44, sk, nil, []byte("cm"), zeroes),
		mustSign(t, 44, sk, []byte("cm"), nil, zeroes),
	}
	for i, a := range all {
		for j, b := range all {
			if i != j && bytes.Equal(a, b) {
				t.Errorf("signatures %d and %d are the same", i, j)
			}
		}
	}
	if !bytes.Equal(all[0], mustSign(t, 44, sk, []byte("c"), []byte("m"), zeroes)) {
		t.Error("the same call is answered otherwise")
	}
}

// edges are numbers of which the signed message is made, such that in the try that is named one of the norms,
// or how many hints there are, is at an edge, and all else is enough. (With the key of seedOf and noughts for rnd.)
var edges = map[int][]struct {
	what         string
	message, try int
}{
	44: {{"z at", 49, 1}, {"z below", 134, 9}, {"r0 at", 88, 13}, {"r0 below", 202, 1}, {"hints at", 222, 17}, {"hints above", 62, 6}},
	65: {{"z at", 2683, 6}, {"z below", 105, 3}, {"r0 at", 66, 3}, {"r0 below", 36, 0}, {"hints at", 291, 3}, {"hints above", 98, 0}},
	87: {{"z at", 20, 4}, {"z below", 220, 2}, {"r0 at", 65, 0}, {"r0 below", 102, 0}, {"hints at", 415, 2}, {"hints above", 3, 0}},
}

// at tells whether a try is at an edge, and all else is enough.
func (s slowSet) at(what string, a attempt) bool {
	place := map[string]bool{
		"z at": a.normZ == s.g1-s.b, "z below": a.normZ == s.g1-s.b-1,
		"r0 at": a.normR0 == s.g2-s.b, "r0 below": a.normR0 == s.g2-s.b-1,
		"hints at": a.hints == s.w, "hints above": a.hints == s.w+1,
		"t0 at": a.normT0 == s.g2, "t0 below": a.normT0 == s.g2-1,
	}
	switch what {
	case "z at":
		a.normZ = 0
	case "r0 at":
		a.normR0 = 0
	case "hints above":
		a.hints = 0
	case "t0 at":
		a.normT0 = 0
	}
	return place[what] && s.enough(a)
}

// P5.3: a try is enough just below the edges, and not at them.
func TestSignAtTheEdges(t *testing.T) {
	inAll(t, func(t *testing.T, set int) {
		_, sk := mustKeys(t, set, seedOf(set))
		for _, edge := range edges[set] {
			msg := []byte(strconv.Itoa(edge.message))
			s := slowStart(set, sk, nil, msg, zeroes)
			a := s.slowTry(edge.try)
			if !s.at(edge.what, a) {
				t.Fatalf("message %d is not: %s", edge.message, edge.what)
			}
			got, e := Sign(set, sk, nil, msg, zeroes, edge.try+1)
			if s.enough(a) && (e != api.OK || !bytes.Equal(got, s.signature(a))) {
				t.Errorf("%s: not this try's signature, %d", edge.what, e)
			}
			if !s.enough(a) && (e != api.ErrTries || len(got) != 0) {
				t.Errorf("%s: %d bytes, %d", edge.what, len(got), e)
			}
		}
	})
}

// putNumber writes the number at a place of those that are packed in b with so many bits.
func putNumber(b []byte, place, bits, n int) {
	for bit := range bits {
		at := place*bits + bit
		b[at/8] = b[at/8]&^(1<<(at%8)) | byte(n>>bit&1)<<(at%8)
	}
}

// withLow is a secret key with another t0.
func withLow(set int, sk []byte, t0 [][]int) []byte {
	return append(slices.Clone(sk[:len(sk)-416*slowSets[set].k]), slowCentred(t0, 4096, 13)...)
}

// reaching is a t0 whose product with c has, in its first polynomial, the first number n.
func reaching(set int, c []int, n int) [][]int {
	t0 := make([][]int, slowSets[set].k)
	for i := range t0 {
		t0[i] = make([]int, 256)
	}
	for j := 255; j > 0 && n > 0; j-- {
		if c[j] != 0 {
			part := min(n, 4095)
			n -= part
			t0[0][256-j] = slowModulo(-part * slowAround(c[j]))
		}
	}
	return t0
}

// P5.3: the norm of c t0 is asked too. Only in the set 44 it can be too great, and of keys that Keys makes it hardly is.
func TestSignAtTheEdgeOfLow(t *testing.T) {
	_, sk := mustKeys(t, 44, seedOf(44))
	msg := []byte("15") // of which the first try is enough
	plain := slowStart(44, sk, nil, msg, zeroes).slowTry(0)
	for what, n := range map[string]int{"t0 at": 95232, "t0 below": 95231} {
		crafted := withLow(44, sk, reaching(44, plain.c, n))
		s := slowStart(44, crafted, nil, msg, zeroes)
		a := s.slowTry(0)
		if !s.at(what, a) {
			t.Fatalf("%s: %d, %d hints", what, a.normT0, a.hints)
		}
		got, e := Sign(44, crafted, nil, msg, zeroes, 1)
		if what == "t0 below" && (e != api.OK || !bytes.Equal(got, s.signature(a))) {
			t.Errorf("%s: not this try's signature, %d", what, e)
		}
		if what == "t0 at" && (e != api.ErrTries || len(got) != 0) {
			t.Errorf("%s: %d bytes, %d", what, len(got), e)
		}
		want, _ := slowSign(44, crafted, nil, msg, zeroes, 50)
		if got := mustSign(t, 44, crafted, nil, msg, zeroes); !bytes.Equal(got, want) {
			t.Errorf("%s: another signature in more tries", what)
		}
	}
}

// hard is a secret key with which few tries are enough: its t0 is as far from 0 as may be.
func hard(set int, sk []byte) []byte {
	signs := slowHash(32*slowSets[set].k, []byte("t0"))
	t0 := make([][]int, slowSets[set].k)
	for i := range t0 {
		for at := range 256 {
			n := -4095
			if signs[32*i+at/8]>>(at%8)&1 == 1 {
				n = 4096
			}
			t0[i] = append(t0[i], slowModulo(n))
		}
	}
	return withLow(set, sk, t0)
}

// P5.3: as many tries as are just enough, and one fewer; more make no other signature.
func TestTriesJustEnough(t *testing.T) {
	inAll(t, func(t *testing.T, set int) {
		pk, sk := mustKeys(t, set, seedOf(set))
		for n := range 12 {
			msg := []byte(strconv.Itoa(n))
			want, last := slowSign(set, sk, nil, msg, zeroes, 100)
			for _, tries := range []int{last + 1, last + 2, api.MaxTries} {
				if got, e := Sign(set, sk, nil, msg, zeroes, tries); e != api.OK || !bytes.Equal(got, want) {
					t.Errorf("%d tries where %d are enough: %d", tries, last+1, e)
				}
			}
			for tries := range last + 1 {
				if got, e := Sign(set, sk, nil, msg, zeroes, tries); e != api.ErrTries || len(got) != 0 {
					t.Errorf("%d tries where %d are enough: %d bytes, %d", tries, last+1, len(got), e)
				}
			}
			if !Verify(set, pk, nil, msg, want) {
				t.Errorf("message %d isn't verified", n)
			}
		}
	})
}

// P5.3: the first try may be enough, and hundreds may not: then the masks' numbers are more than a byte.
func TestTriesFirstAndLate(t *testing.T) {
	for set, n := range map[int]int{44: 15, 65: 2, 87: 2} {
		_, sk := mustKeys(t, set, seedOf(set))
		msg := []byte(strconv.Itoa(n))
		s := slowStart(set, sk, nil, msg, zeroes)
		if got, e := Sign(set, sk, nil, msg, zeroes, 1); e != api.OK || !bytes.Equal(got, s.signature(s.slowTry(0))) {
			t.Errorf("%d: not the first try's signature, %d", set, e)
		}
	}
	for set, late := range map[int]struct{ message, try int }{44: {28, 871}, 65: {3, 357}, 87: {25, 932}} {
		_, sk := mustKeys(t, set, seedOf(set))
		sk = hard(set, sk)
		msg := []byte(strconv.Itoa(late.message))
		s := slowStart(set, sk, nil, msg, zeroes)
		a := s.slowTry(late.try)
		if got, e := Sign(set, sk, nil, msg, zeroes, late.try+1); !s.enough(a) || e != api.OK || !bytes.Equal(got, s.signature(a)) {
			t.Errorf("%d: not the signature of try %d, %d", set, late.try, e)
		}
		if got, e := Sign(set, sk, nil, msg, zeroes, late.try); e != api.ErrTries || len(got) != 0 {
			t.Errorf("%d: one fewer than try %d: %d bytes, %d", set, late.try, len(got), e)
		}
	}
}

// P5.3: no one of as many tries as there may be is enough.
func TestTriesNeverEnough(t *testing.T) {
	for set, n := range map[int]int{44: 0, 87: 11} {
		_, sk := mustKeys(t, set, seedOf(set))
		if got, e := Sign(set, hard(set, sk), nil, []byte(strconv.Itoa(n)), zeroes, api.MaxTries); e != api.ErrTries || len(got) != 0 {
			t.Errorf("%d: %d bytes, %d", set, len(got), e)
		}
	}
}

// P5.3: secret keys are refused if a number of s1 or s2 is above 2e, wherever it stands; with 2e they sign.
func TestSmallNumbers(t *testing.T) {
	inAll(t, func(t *testing.T, set int) {
		s := slowSets[set]
		_, sk := mustKeys(t, set, seedOf(set))
		for polynomial := range s.l + s.k {
			for _, at := range []int{0, 1, 2, 7, 128, 254, 255} {
				for n := range 1 << s.smallBits {
					crafted := slices.Clone(sk)
					putNumber(crafted[128:], 256*polynomial+at, s.smallBits, n)
					_, e := Sign(set, crafted, make([]byte, 256), nil, zeroes, 1)
					if want := map[bool]api.Errno{true: api.ErrCtx, false: api.ErrKey}[n <= 2*s.e]; e != want {
						t.Fatalf("the number %d of polynomial %d is %d: %d, want %d", at, polynomial, n, e, want)
					}
				}
			}
		}
		for _, polynomial := range []int{0, s.l - 1, s.l, s.l + s.k - 1} {
			crafted := slices.Clone(sk)
			for at := range 256 {
				putNumber(crafted[128:], 256*polynomial+at, s.smallBits, at%2*2*s.e)
			}
			want, _ := slowSign(set, crafted, nil, nil, zeroes, 100)
			if got := mustSign(t, set, crafted, nil, nil, zeroes); !bytes.Equal(got, want) {
				t.Errorf("another signature with the greatest numbers in polynomial %d", polynomial)
			}
		}
	})
}

// P5.3: a secret key that no call has made signs by what stands in it, tr too.
func TestSignWithOtherKeys(t *testing.T) {
	inAll(t, func(t *testing.T, set int) {
		s := slowSets[set]
		for seed := range int64(3) {
			sk := drawn(seed, sizes[set][1])
			for at := range 256 * (s.l + s.k) {
				putNumber(sk[128:], at, s.smallBits, int(sk[at%len(sk)])%(2*s.e+1))
			}
			want, last := slowSign(set, sk, []byte("c"), []byte("m"), zeroes, 60)
			got, e := Sign(set, sk, []byte("c"), []byte("m"), zeroes, 60)
			if !bytes.Equal(got, want) || (e == api.OK) != (last >= 0) {
				t.Errorf("key %d: another signature, %d", seed, e)
			}
		}
	})
}

// fault is what is wrong with a call of Sign, and what it is answered.
type fault struct {
	what string
	e    api.Errno
	make func(c *call)
}

// call is the arguments of Sign.
type call struct {
	set, tries        int
	sk, ctx, msg, rnd []byte
}

// faults are in the order in which they are told.
func faults() []fault {
	list := []fault{}
	for _, set := range noSets {
		list = append(list, fault{fmt.Sprint("set ", set), api.ErrSet, func(c *call) { c.set = set }})
	}
	list = append(list,
		fault{"sk empty", api.ErrKey, func(c *call) { c.sk = nil }},
		fault{"sk short", api.ErrKey, func(c *call) { c.sk = c.sk[:len(c.sk)-1] }},
		fault{"sk long", api.ErrKey, func(c *call) { c.sk = append(slices.Clone(c.sk), 0) }},
		fault{"sk without its first", api.ErrKey, func(c *call) { c.sk = c.sk[1:] }},
		fault{"sk with a great number", api.ErrKey, func(c *call) { c.sk = slices.Clone(c.sk); c.sk[128] = 255 }},
	)
	for _, n := range []int{0, 1, 31, 33, 64} {
		list = append(list, fault{fmt.Sprint("rnd of ", n), api.ErrKey, func(c *call) { c.rnd = make([]byte, n) }})
	}
	for _, n := range []int{256, 257, 512, 511, 70000} {
		list = append(list, fault{fmt.Sprint("context of ", n), api.ErrCtx, func(c *call) { c.ctx = make([]byte, n) }})
	}
	for _, n := range []int{0, -1, math.MinInt, api.MaxTries + 1, 1 << 20, math.MaxInt} {
		list = append(list, fault{fmt.Sprint("tries ", n), api.ErrTries, func(c *call) { c.tries = n }})
	}
	return list
}

// P5.3: what is wrong is refused, and of two such things the one that is named first is told.
func TestSignRefused(t *testing.T) {
	for _, set := range sets {
		_, sk := mustKeys(t, set, seedOf(set))
		all := faults()
		for i, first := range all {
			for _, second := range all[i:] {
				c := call{set: set, tries: api.MaxTries, sk: sk, rnd: zeroes}
				first.make(&c)
				if first.what[:2] != second.what[:2] { // a second fault of the same argument would undo the first
					second.make(&c)
				}
				if sig, e := Sign(c.set, c.sk, c.ctx, c.msg, c.rnd, c.tries); e != first.e || len(sig) != 0 {
					t.Errorf("%d, %s and %s: %d bytes, %d, want %d", set, first.what, second.what, len(sig), e, first.e)
				}
			}
		}
	}
}

// P5.3: a key of another set is refused, as it hasn't this one's length.
func TestSignKeyOfAnotherSet(t *testing.T) {
	for _, set := range sets {
		_, sk := mustKeys(t, set, zeroes)
		for _, other := range sets {
			if _, e := Sign(other, sk, nil, nil, zeroes, api.MaxTries); (e == api.OK) != (set == other) || e != api.OK && e != api.ErrKey {
				t.Errorf("a key of %d for %d: %d", set, other, e)
			}
		}
	}
}
