package lms

import (
	"bytes"
	"slices"
	"strconv"
	"testing"
)

// P7.2: what Sign answers is verified, at every number of small keys, and of no other message.
func TestVerify(t *testing.T) {
	inAll(t, small(), func(t *testing.T, k Key) {
		pk := mustPublic(t, k)
		for _, n := range someNumbers(k) {
			msg := []byte("message " + strconv.Itoa(n))
			sig := mustSign(t, k, n, msg)
			if !Verify(pk, msg, sig) {
				t.Errorf("signature %d isn't verified", n)
			}
			for _, other := range [][]byte{nil, msg[1:], msg[:len(msg)-1], append(slices.Clone(msg), 0), []byte("Message " + strconv.Itoa(n)), sig, pk} {
				if Verify(pk, other, sig) {
					t.Errorf("signature %d is verified of %q", n, other)
				}
			}
		}
	})
}

// spoiltPlaces are the first, the last and one byte in between of each field.
func spoiltPlaces(fields []field) []int {
	var places []int
	for _, f := range fields {
		if f.size > 0 {
			places = append(places, f.at, f.at+f.size/2, f.at+f.size-1)
		}
	}
	return places
}

// P7.2: a signature that is spoilt in one place is none: in the levels, the types, the leaves' numbers, C, the parts, the nodes, the public keys.
func TestVerifySpoilt(t *testing.T) {
	inAll(t, []Key{keyOf(1, 1, 1), keyOf(1, 2, 8), keyOf(2, 1, 1), keyOf(2, 1, 2), keyOf(2, 2, 4), keyOf(3, 1, 8), keyOf(3, 2, 4), keyOf(2, 5, 4)}, func(t *testing.T, k Key) {
		pk, n := mustPublic(t, k), k.Count()/2-1
		sig := mustSign(t, k, n, []byte("m"))
		fields := slowFields(slowShapes(k))
		if end := fields[len(fields)-1].at; len(sig) != end {
			t.Fatalf("it has %d bytes, want %d", len(sig), end)
		}
		for _, at := range spoiltPlaces(fields) {
			spoilt := slices.Clone(sig)
			spoilt[at] ^= 1 << (at % 8)
			if Verify(pk, []byte("m"), spoilt) {
				t.Errorf("byte %d doesn't count", at)
			}
		}
		if !Verify(pk, []byte("m"), sig) {
			t.Error("it isn't verified")
		}
	})
}

// P7.2: so it is at every byte and bit of a short one.
func TestVerifySpoiltEverywhere(t *testing.T) {
	t.Parallel()
	k := keyOf(2, 1, 4)
	pk := mustPublic(t, k)
	sig := mustSign(t, k, 2, []byte("m"))
	for at := range sig {
		for _, mask := range []byte{1, 0x80} {
			sig[at] ^= mask
			if Verify(pk, []byte("m"), sig) {
				t.Errorf("byte %d doesn't count", at)
			}
			sig[at] ^= mask
		}
	}
	for at := range pk {
		for bit := range 8 {
			pk[at] ^= 1 << bit
			if Verify(pk, []byte("m"), sig) {
				t.Errorf("byte %d of the public key doesn't count", at)
			}
			pk[at] ^= 1 << bit
		}
	}
	if !Verify(pk, []byte("m"), sig) {
		t.Error("it isn't verified")
	}
}

// P7.2: signatures and public keys that are too short or too long are none.
func TestVerifyLengths(t *testing.T) {
	inAll(t, []Key{keyOf(1, 1, 8), keyOf(2, 2, 4), keyOf(3, 1, 1)}, func(t *testing.T, k Key) {
		pk := mustPublic(t, k)
		sig := mustSign(t, k, 1, nil)
		for _, f := range slowFields(slowShapes(k)) {
			for _, n := range []int{f.at - 1, f.at, f.at + 1} {
				if n >= 0 && n < len(sig) && Verify(pk, nil, sig[:n]) {
					t.Errorf("%d bytes are verified", n)
				}
			}
		}
		long := slices.Concat(sig, sig)
		for _, n := range []int{1, 4, 32, 56, len(sig)} {
			if Verify(pk, nil, long[:len(sig)+n]) {
				t.Errorf("with %d bytes behind it, it is verified", n)
			}
		}
		if Verify(pk, nil, sig[1:]) || Verify(pk, nil, append([]byte{0}, sig...)) || Verify(pk, nil, nil) {
			t.Error("it may lack its first byte, or have one ahead of it")
		}
		keys := slices.Concat(pk, pk)
		for _, n := range []int{0, 1, 3, 4, 8, 12, 28, 56, 59, 61, 64, 92, 120} {
			if Verify(keys[:n], nil, sig) {
				t.Errorf("with a public key of %d bytes it is verified", n)
			}
		}
		if Verify(pk[1:], nil, sig) || Verify(append([]byte{0}, pk...), nil, sig) || Verify(pk[4:], nil, sig) || Verify(nil, nil, sig) {
			t.Error("the public key may lack its first byte, or have one ahead of it")
		}
		if Verify(sig, nil, pk) || Verify(nil, nil, nil) || !Verify(pk, nil, sig) {
			t.Error("it isn't verified, or nothing is")
		}
	})
}

// P7.2, P1: a signature that lacks some of its fields is none, also where those that are left would follow one another.
func TestVerifyLeftOut(t *testing.T) {
	for _, k := range []Key{keyOf(1, 1, 8), keyOf(2, 1, 8)} {
		pk := mustPublic(t, k)
		sig := mustSign(t, k, 1, []byte("m"))
		fields := slowFields(slowShapes(k))
		for i, from := range fields {
			for _, to := range fields[i+1:] {
				left := slices.Concat(sig[:from.at], sig[to.at:])
				if Verify(pk, []byte("m"), left) {
					t.Errorf("%s: it is verified without what is from %s to ahead of %s", title(k), from.name, to.name)
				}
				if leaves, ok := Leaves(left); !ok && len(leaves) != 0 {
					t.Errorf("%s: %v are told beside false", title(k), leaves)
				}
			}
		}
	}
	for _, kind := range []int{1, 2, 3, 4} {
		for _, body := range []int{0, 32} {
			sig := slices.Concat(u4(0), u4(0), u4(kind), make([]byte, body), u4(0xe0000001))
			if Verify(mustPublic(t, keyOf(1, 1, 1<<(kind-1))), nil, sig) {
				t.Errorf("%x is verified", sig)
			}
		}
	}
}

// P7.2: it isn't verified under another key: of another identity, seed, height, width, or of other levels.
func TestVerifyOtherKeys(t *testing.T) {
	k := keyOf(2, 2, 4)
	sig := mustSign(t, k, 5, []byte("m"))
	others := []Key{keyOf(1, 2, 4), keyOf(3, 2, 4), keyOf(2, 1, 4), keyOf(2, 3, 4), keyOf(2, 5, 4), keyOf(2, 2, 2), keyOf(2, 2, 8), keyOf(2, 2, 1)}
	for range 2 {
		others = append(others, keyOf(2, 2, 4))
	}
	others[len(others)-2].Identity[15] ^= 1
	others[len(others)-1].Seed[31] ^= 1
	for _, other := range others {
		if Verify(mustPublic(t, other), []byte("m"), sig) {
			t.Errorf("it is verified under the key %s", title(other))
		}
		if Verify(mustPublic(t, k), []byte("m"), mustSign(t, other, 1, []byte("m"))) {
			t.Errorf("that of the key %s is verified", title(other))
		}
	}
}

// P7.2: storeys of one signature aren't verified in another, unless they stand at the same place.
func TestVerifyMoved(t *testing.T) {
	k := keyOf(2, 2, 4)
	pk := mustPublic(t, k)
	first, second := mustSign(t, k, 5, []byte("m")), mustSign(t, k, 6, []byte("m"))
	third := mustSign(t, k, 9, []byte("m"))
	upper := 4 + 2252 + 56
	if !Verify(pk, []byte("m"), slices.Concat(first[:upper], second[upper:])) {
		t.Error("the same tree's signature isn't verified")
	}
	if Verify(pk, []byte("m"), slices.Concat(first[:upper], third[upper:])) || Verify(pk, []byte("m"), slices.Concat(first[:4], third[4:4+2252], first[4+2252:])) {
		t.Error("another tree's signature is verified")
	}
}

// P7.2: each tree may have a height and width of its own.
func TestVerifyMixed(t *testing.T) {
	for i, c := range []struct {
		shapes [][2]int
		leaves []int
	}{
		{[][2]int{{1, 8}, {2, 4}}, []int{1, 3}},
		{[][2]int{{2, 4}, {1, 4}}, []int{2, 0}},
		{[][2]int{{2, 4}, {2, 2}}, []int{0, 2}},
		{[][2]int{{5, 4}, {1, 1}}, []int{31, 1}},
		{[][2]int{{1, 2}, {5, 8}}, []int{0, 17}},
		{[][2]int{{6, 1}, {1, 8}, {5, 2}}, []int{63, 0, 30}},
		{[][2]int{{1, 1}, {3, 2}, {6, 4}}, []int{1, 6, 40}},
		{[][2]int{{3, 8}, {4, 4}, {2, 1}}, []int{7, 15, 3}},
		{[][2]int{{2, 4}, {5, 4}, {2, 4}}, []int{0, 0, 0}},
	} {
		pk, sig := slowMixed(c.shapes, rising(7, 16), rising(70, 32), c.leaves, []byte("m"))
		if !Verify(pk, []byte("m"), sig) {
			t.Errorf("case %d isn't verified", i)
		}
		if leaves, ok := Leaves(sig); ok && !slices.Equal(leaves, c.leaves) {
			t.Errorf("case %d has the leaves %v", i, leaves)
		}
		if Verify(pk, []byte("n"), sig) || Verify(pk, []byte("m"), sig[:len(sig)-32]) || Verify(pk, []byte("m"), append(sig, 0)) {
			t.Errorf("case %d is verified, though it is spoilt", i)
		}
		for at := 3; at < len(sig); at += 331 {
			sig[at] ^= 1
			if Verify(pk, []byte("m"), sig) {
				t.Errorf("case %d: byte %d doesn't count", i, at)
			}
			sig[at] ^= 1
		}
	}
}

// P7.2: trees of heights that none may have aren't verified, though all else in them is right.
func TestVerifyNoHeights(t *testing.T) {
	for _, shapes := range [][][2]int{{{0, 4}}, {{7, 1}}, {{8, 2}}, {{0, 4}, {2, 4}}, {{2, 4}, {0, 4}}, {{2, 4}, {7, 1}}, {{7, 1}, {2, 4}}, {{1, 1}, {1, 1}, {0, 8}}, {{1, 1}, {0, 1}, {1, 1}}} {
		pk, sig := slowMixed(shapes, rising(7, 16), rising(70, 32), make([]int, len(shapes)), []byte("m"))
		if Verify(pk, []byte("m"), sig) {
			t.Errorf("%v is verified", shapes)
		}
	}
}

// P7.2: so it is with levels that none may have.
func TestVerifyNoLevels(t *testing.T) {
	for _, levels := range []int{4, 5, 9} {
		pk, sig := slowMixed(slices.Repeat([][2]int{{1, 8}}, levels), rising(7, 16), rising(70, 32), make([]int, levels), []byte("m"))
		if Verify(pk, []byte("m"), sig) {
			t.Errorf("%d levels are verified", levels)
		}
	}
	k := keyOf(1, 1, 8)
	sig := mustSign(t, k, 1, []byte("m"))
	tree := mustPublic(t, k)[4:]
	for _, key := range []int{0, 1, 2, 3, 4, 257, 1 << 16, 1 << 24, 1 << 31, 1<<32 - 1} {
		for _, levels := range []int{0, 1, 2, 3, 256, 1 << 16, 1 << 24, 1 << 31, 1<<32 - 2, 1<<32 - 1} {
			got := Verify(slices.Concat(u4(key), tree), []byte("m"), slices.Concat(u4(levels), sig[4:]))
			if want := key == 1 && levels == 0; got != want {
				t.Errorf("%d and %d: %t", key, levels, got)
			}
		}
	}
	for _, key := range []int{0, 1<<32 - 1} {
		for _, levels := range []int{0, 1<<32 - 1} {
			if Verify(slices.Concat(u4(key), tree), nil, u4(levels)) {
				t.Errorf("%d and %d without a tree are verified", key, levels)
			}
		}
	}
}

// P7.2: a key of two levels isn't verified as one of one level, nor the other way round, though the storeys are right.
func TestVerifyOtherLevels(t *testing.T) {
	two := keyOf(2, 1, 8)
	pk, sig := mustPublic(t, two), mustSign(t, two, 3, []byte("m"))
	upper := 4 + (4 + 4 + 32 + 34*32 + 4 + 32)
	lower, last := sig[upper:upper+56], sig[upper+56:]
	if !Verify(slices.Concat(u4(1), lower), []byte("m"), slices.Concat(u4(0), last)) {
		t.Error("the lower tree alone isn't verified")
	}
	if !Verify(slices.Concat(u4(1), pk[4:]), lower, slices.Concat(u4(0), sig[4:upper])) {
		t.Error("the upper tree alone isn't verified")
	}
	for _, levels := range []int{0, 1, 3} {
		if Verify(slices.Concat(u4(levels), pk[4:]), []byte("m"), sig) {
			t.Errorf("under a key of %d levels it is verified", levels)
		}
	}
	for _, levels := range []int{0, 2, 3} {
		if Verify(slices.Concat(u4(levels), lower), []byte("m"), slices.Concat(u4(0), last)) {
			t.Errorf("under a key of %d levels the lower tree alone is verified", levels)
		}
	}
}

// replace writes bytes over a part of b.
func replace(b []byte, at int, over []byte) []byte {
	return slices.Concat(b[:at], over, b[at+len(over):])
}

// P7.2: a type that isn't its tree's is refused, where it stands in both the key and the signature too.
func TestVerifyTypes(t *testing.T) {
	for height := 1; height <= 6; height++ {
		tree := slowTree{height, 4, rising(7, 16), rising(70, 32)}
		pk, sig := slices.Concat(u4(1), tree.public()), slices.Concat(u4(0), tree.sign(1, []byte("m")))
		if !Verify(pk, []byte("m"), sig) {
			t.Errorf("the height %d isn't verified", height)
		}
		inSig := 4 + 4 + 4 + 32 + 67*32
		kinds := []int{0, 1, 2, 3, 4, 5, 6, 7, 8, 9, 1 << 24, 0xe0, 0xe000, 0xd0000000 + height, 0xf0000000 + height, 1<<32 - 1}
		for h := range 16 {
			kinds = append(kinds, 0xe0000000+h)
		}
		for _, kind := range kinds {
			if kind == tree.kind() {
				continue
			}
			if Verify(replace(pk, 4, u4(kind)), []byte("m"), sig) || Verify(pk, []byte("m"), replace(sig, inSig, u4(kind))) ||
				Verify(replace(pk, 4, u4(kind)), []byte("m"), replace(sig, inSig, u4(kind))) {
				t.Errorf("the type %x is taken for that of the height %d", kind, height)
			}
		}
	}
}

// P7.2: a path that is longer or shorter than the key's tree is high is refused, though what comes of it is the node 1 of the key.
func TestVerifyOtherPaths(t *testing.T) {
	for height := 1; height <= 6; height++ {
		for length := 1; length <= 6; length++ {
			tree := slowTree{height, 4, rising(7, 16), rising(70, 32)}
			path := slices.Repeat([][]byte{drawn(1, 32)}, length)
			pk := slices.Concat(u4(1), tree.publicWith(tree.climb(1, path)))
			own := slices.Concat(u4(0), tree.signWith(1, []byte("m"), path))
			other := replace(own, 4+4+4+32+67*32, u4(slowTree{h: length}.kind()))
			same := height == length
			if Verify(pk, []byte("m"), own) != same || Verify(pk, []byte("m"), other) != same {
				t.Errorf("%d nodes in a tree of the height %d", length, height)
			}
		}
	}
}

// P7.2: a width's type that isn't its leaves' is refused too.
func TestVerifyLeafTypes(t *testing.T) {
	for _, w := range bits {
		tree := slowTree{1, w, rising(7, 16), rising(70, 32)}
		pk, sig := slices.Concat(u4(1), tree.public()), slices.Concat(u4(0), tree.sign(1, []byte("m")))
		for _, kind := range []int{0, 1, 2, 3, 4, 5, 6, 7, 8, 255, 256 + 3, 1 << 24, 0xe0000001, 1<<32 - 1} {
			own := kind == slowWidths[w].kind
			if Verify(replace(pk, 8, u4(kind)), []byte("m"), sig) != own || Verify(pk, []byte("m"), replace(sig, 8, u4(kind))) != own ||
				Verify(replace(pk, 8, u4(kind)), []byte("m"), replace(sig, 8, u4(kind))) != own {
				t.Errorf("the type %x for the width %d", kind, w)
			}
		}
	}
}

// P7.2: a lower tree's public key that was signed as it stands is refused, if it has a type that is none, or not that of the signature below.
func TestVerifyLowerTypes(t *testing.T) {
	for _, c := range []struct {
		height int
		kind   int
	}{{5, 5}, {5, 0xe0000005}, {2, 0xe0000002}, {2, 2}, {2, 0xe0000003}, {2, 5}, {2, 0}} {
		upper := slowTree{1, 8, rising(7, 16), rising(70, 32)}
		lower := upper.below(1, [2]int{c.height, 4})
		public := replace(lower.public(), 0, u4(c.kind))
		last := lower.sign(3, []byte("m"))
		for _, below := range [][]byte{last, replace(last, 4+4+32+67*32, u4(c.kind))} {
			got := Verify(slices.Concat(u4(2), upper.public()), []byte("m"), slices.Concat(u4(1), upper.sign(1, public), public, below))
			if want := c.kind == lower.kind(); got != want {
				t.Errorf("the type %x for the height %d: %t", c.kind, c.height, got)
			}
		}
	}
}

// P7.2: a leaf that the tree hasn't is refused, though what comes of it is the node 1 of the key.
func TestVerifyLeavesOutside(t *testing.T) {
	for _, height := range []int{1, 2, 5, 6} {
		tree := slowTree{height, 4, rising(7, 16), rising(70, 32)}
		path := slices.Repeat([][]byte{drawn(1, 32)}, height)
		for _, q := range []int{0, 1, 1<<height - 1, 1 << height, 1<<height + 1, 2 << height, 256, 1 << 16, 1 << 24, 1 << 31, 1<<32 - 1, 1<<32 - 1<<height} {
			pk := slices.Concat(u4(1), tree.publicWith(tree.climb(q, path)))
			got := Verify(pk, []byte("m"), slices.Concat(u4(0), tree.signWith(q, []byte("m"), path)))
			if want := q < 1<<height; got != want {
				t.Errorf("the leaf %d of a tree of the height %d: %t", q, height, got)
			}
		}
	}
}

// P7.2, P1: bytes that no call has made are no signatures, also where they have the right lengths and types.
func TestVerifyAnyBytes(t *testing.T) {
	for _, k := range small() {
		pk := mustPublic(t, k)
		size := len(mustSign(t, k, 0, nil))
		for seed := range int64(5) {
			sig := drawn(seed, size)
			if seed == 1 {
				clear(sig)
			}
			if Verify(pk, nil, sig) || Verify(drawn(seed, 60), nil, sig) {
				t.Errorf("%s: bytes %d are verified", title(k), seed)
			}
			shaped := slices.Clone(sig)
			right := mustSign(t, k, 0, nil)
			for _, f := range slowFields(slowShapes(k)) {
				if f.size == 4 {
					copy(shaped[f.at:], right[f.at:f.at+4])
				}
			}
			if Verify(pk, nil, shaped) || Verify(slices.Concat(pk[:12], drawn(seed, 48)), nil, shaped) {
				t.Errorf("%s: bytes %d in its form are verified", title(k), seed)
			}
		}
	}
}

// P1: keys and signatures of any lengths go together without a panic.
func TestAnyArguments(t *testing.T) {
	starts := [][]byte{nil, u4(1), u4(2), slices.Concat(u4(0), u4(0), u4(1)), slices.Concat(u4(1), u4(1), u4(4)), slices.Concat(u4(2), u4(0), u4(3)), bytes.Repeat([]byte{255}, 64), u4(0xe0000001)}
	for length := range 200 {
		for _, start := range starts {
			b := append(slices.Clone(start), make([]byte, length)...)
			if Verify(b, nil, b) || Verify(make([]byte, 60), nil, b) || Verify(b, b, nil) {
				t.Errorf("%x is verified", b)
			}
			if leaves, ok := Leaves(b); !ok && len(leaves) != 0 {
				t.Errorf("of %x: %v", b, leaves)
			}
		}
	}
}

// P7.2: the leaves of signatures, at each number of small keys.
func TestLeaves(t *testing.T) {
	inAll(t, append(small(), keyOf(1, 3, 2), keyOf(1, 5, 4), keyOf(1, 6, 1)), func(t *testing.T, k Key) {
		for n := range k.Count() {
			leaves, ok := Leaves(mustSign(t, k, n, []byte("m")))
			if !ok || !slices.Equal(leaves, slowLeaves(k, n)) {
				t.Errorf("signature %d: %v, %t, want %v", n, leaves, ok, slowLeaves(k, n))
			}
		}
	})
}

// P7.2: of other bytes some numbers are told, or nothing.
func TestLeavesOfOtherBytes(t *testing.T) {
	check := func(b []byte) {
		t.Helper()
		leaves, ok := Leaves(b)
		if !ok && len(leaves) != 0 {
			t.Errorf("of %d bytes %v are told beside false", len(b), leaves)
		}
		if again, okAgain := Leaves(slices.Clone(b)); ok != okAgain || !slices.Equal(leaves, again) {
			t.Error("the same bytes are answered otherwise")
		}
	}
	if leaves, ok := Leaves(nil); ok || len(leaves) != 0 {
		t.Errorf("of nothing: %v, %t", leaves, ok)
	}
	for _, k := range []Key{keyOf(1, 1, 8), keyOf(2, 2, 4), keyOf(3, 1, 1)} {
		sig := mustSign(t, k, 1, nil)
		for n := range len(sig) {
			check(sig[:n])
		}
		check(append(slices.Clone(sig), 0))
		for _, f := range slowFields(slowShapes(k)) {
			if f.size == 4 {
				for _, over := range []int{0, 1, 2, 3, 4, 5, 6, 0xe0000000, 0xe0000006, 0xe0000007, 1 << 31, 1<<32 - 1} {
					check(replace(sig, f.at, u4(over)))
				}
			}
		}
		for seed := range int64(20) {
			check(drawn(seed, len(sig)))
		}
	}
	for n := range 100 {
		check(make([]byte, n))
		check(bytes.Repeat([]byte{255}, n))
	}
}
