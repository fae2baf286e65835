package dsa

import (
	"bytes"
	"crypto/mldsa"
	"math/rand"
	"slices"
	"strconv"
	"testing"
)

// P5.4: what Sign answers is verified, with contexts and messages of several lengths.
func TestVerify(t *testing.T) {
	inAll(t, func(t *testing.T, set int) {
		pk, sk := mustKeys(t, set, seedOf(set))
		for _, context := range []int{0, 1, 2, 254, 255} {
			for _, message := range []int{0, 1, 135, 136, 4096, 70000} {
				ctx, msg := drawn(1, context), drawn(2, message)
				sig := mustSign(t, set, sk, ctx, msg, drawn(3, 32))
				if !Verify(set, pk, ctx, msg, sig) {
					t.Errorf("a context of %d and a message of %d bytes aren't verified", context, message)
				}
			}
		}
		sig := mustSign(t, set, sk, nil, nil, zeroes)
		if !Verify(set, pk, []byte{}, []byte{}, sig) || !Verify(set, pk, nil, nil, sig) {
			t.Error("nil and empty aren't one")
		}
	})
}

// P5.4: signatures of the library, which are drawn, are verified; and its own are by it.
func TestVerifyOfTheLibrary(t *testing.T) {
	inAll(t, func(t *testing.T, set int) {
		for n := range 20 {
			seed, msg := drawn(int64(n), 32), drawn(int64(n), 50*n)
			options := &mldsa.Options{Context: string(drawn(int64(n), 13*n))}
			key, _ := mldsa.NewPrivateKey(library(set), seed)
			sig, err := key.Sign(nil, msg, options)
			if err != nil {
				t.Fatal(err)
			}
			pk, sk := mustKeys(t, set, seed)
			if !Verify(set, pk, []byte(options.Context), msg, sig) {
				t.Errorf("the library's signature %d isn't verified", n)
			}
			own := mustSign(t, set, sk, []byte(options.Context), msg, drawn(int64(n), 32))
			if err := mldsa.Verify(key.PublicKey(), msg, own, options); err != nil {
				t.Errorf("signature %d: %v", n, err)
			}
		}
	})
}

// P5.4: a signature that is spoilt in one place is none: in c', in each z, in the hints.
func TestVerifySpoilt(t *testing.T) {
	inAll(t, func(t *testing.T, set int) {
		pk, sk := mustKeys(t, set, seedOf(set))
		sig := mustSign(t, set, sk, []byte("c"), []byte("m"), zeroes)
		hints := len(sig) - slowSets[set].w - slowSets[set].k
		for at := range sig {
			if at >= slowSets[set].c && at < hints && at%5 != 0 {
				continue
			}
			spoilt := slices.Clone(sig)
			spoilt[at] ^= 1 << (at % 8)
			if Verify(set, pk, []byte("c"), []byte("m"), spoilt) {
				t.Errorf("spoilt at %d it is verified", at)
			}
		}
	})
}

// P5.4: with another public key, spoilt in one place, it is none.
func TestVerifySpoiltKey(t *testing.T) {
	inAll(t, func(t *testing.T, set int) {
		pk, sk := mustKeys(t, set, seedOf(set))
		sig := mustSign(t, set, sk, []byte("c"), []byte("m"), zeroes)
		for at := range pk {
			if at >= 40 && at < len(pk)-8 && at%9 != 0 {
				continue
			}
			spoilt := slices.Clone(pk)
			spoilt[at] ^= 1 << (at % 8)
			if Verify(set, spoilt, []byte("c"), []byte("m"), sig) {
				t.Errorf("with a key spoilt at %d it is verified", at)
			}
		}
	})
}

// P5.4: another set, key, context or message; what is cut off or put behind; too long contexts.
func TestVerifyOthers(t *testing.T) {
	inAll(t, func(t *testing.T, set int) {
		pk, sk := mustKeys(t, set, seedOf(set))
		other, _ := mustKeys(t, set, zeroes)
		ctx, msg := []byte("ctx"), []byte("message")
		sig := mustSign(t, set, sk, ctx, msg, zeroes)
		refused := func(what string, set int, pk, ctx, msg, sig []byte) {
			if Verify(set, pk, ctx, msg, sig) {
				t.Errorf("%s is verified", what)
			}
		}
		refused("another message", set, pk, ctx, []byte("massage"), sig)
		refused("a shorter message", set, pk, ctx, msg[:6], sig)
		refused("a longer message", set, pk, ctx, append(slices.Clone(msg), 0), sig)
		refused("no message", set, pk, ctx, nil, sig)
		refused("another context", set, pk, []byte("cty"), msg, sig)
		refused("no context", set, pk, nil, msg, sig)
		refused("a context moved to the message", set, pk, nil, []byte("ctxmessage"), sig)
		refused("a message moved to the context", set, pk, []byte("ctxm"), []byte("essage"), sig)
		refused("another key", set, other, ctx, msg, sig)
		refused("no key", set, nil, ctx, msg, sig)
		refused("a short key", set, pk[:len(pk)-1], ctx, msg, sig)
		refused("a key without its first", set, pk[1:], ctx, msg, sig)
		refused("a long key", set, append(slices.Clone(pk), 0), ctx, msg, sig)
		refused("no signature", set, pk, ctx, msg, nil)
		refused("a short signature", set, pk, ctx, msg, sig[:len(sig)-1])
		refused("a signature without its first", set, pk, ctx, msg, sig[1:])
		refused("a long signature", set, pk, ctx, msg, append(slices.Clone(sig), 0))
		refused("a signature twice", set, pk, ctx, msg, slices.Concat(sig, sig))
		for _, no := range append(slices.Clone(noSets), sets...) {
			if no != set {
				refused("the set "+strconv.Itoa(no), no, pk, ctx, msg, sig)
			}
		}
	})
}

// P5.4: a context of more than 255 bytes is false, even where the byte of its length and all else would fit.
func TestVerifyLongContext(t *testing.T) {
	inAll(t, func(t *testing.T, set int) {
		pk, sk := mustKeys(t, set, seedOf(set))
		for _, length := range []int{256, 257, 511, 512, 70000} {
			ctx := drawn(4, length)
			s := slowStart(set, sk, ctx, []byte("m"), zeroes)
			n := 0
			for !s.enough(s.slowTry(n)) {
				n++
			}
			sig := s.signature(s.slowTry(n))
			if !slowVerify(set, pk, ctx, []byte("m"), sig) {
				t.Fatal("it does not fit")
			}
			if Verify(set, pk, ctx, []byte("m"), sig) {
				t.Errorf("a context of %d bytes is verified", length)
			}
		}
		ctx := drawn(4, 256)
		cut := mustSign(t, set, sk, nil, append(slices.Clone(ctx), 'm'), zeroes)
		if Verify(set, pk, ctx, []byte("m"), cut) {
			t.Error("a context of 256 bytes is as one of none")
		}
	})
}

// P5.4: z must be below g1 - b. All else of these signatures is right.
func TestVerifyGreatZ(t *testing.T) {
	inAll(t, func(t *testing.T, set int) {
		pk, sk := mustKeys(t, set, seedOf(set))
		for _, edge := range edges[set][:2] {
			msg := []byte(strconv.Itoa(edge.message))
			s := slowStart(set, sk, nil, msg, zeroes)
			a := s.slowTry(edge.try)
			if !s.at(edge.what, a) {
				t.Fatalf("message %d is not: %s", edge.message, edge.what)
			}
			if got := Verify(set, pk, nil, msg, s.signature(a)); got != (edge.what == "z below") {
				t.Errorf("%s: %v", edge.what, got)
			}
		}
	})
}

// P5.4: r0, c t0 and how the signature came about aren't asked: these are verified, though Sign would not make them.
func TestVerifyWhatSignPassesOver(t *testing.T) {
	inAll(t, func(t *testing.T, set int) {
		pk, sk := mustKeys(t, set, seedOf(set))
		edge := edges[set][2]
		msg := []byte(strconv.Itoa(edge.message))
		s := slowStart(set, sk, nil, msg, zeroes)
		sig := s.signature(s.slowTry(edge.try))
		if want := slowVerify(set, pk, nil, msg, sig); !want || !Verify(set, pk, nil, msg, sig) {
			t.Errorf("%s: not verified", edge.what)
		}
	})
}

// respelt are the hints of a signature in bytes that mean the same but aren't what PackHints makes.
func respelt(lists [][]int, most int) map[string][]byte {
	out := map[string][]byte{}
	good := slowPlaces(lists, most)
	used := int(good[len(good)-1])
	spoil := func(what string, change func(b []byte)) {
		b := slices.Clone(good)
		change(b)
		out[what] = b
	}
	first := 0
	for i := range lists {
		if n := len(lists[i]); n >= 2 {
			spoil("falling in list "+strconv.Itoa(i), func(b []byte) { b[first], b[first+1] = b[first+1], b[first] })
			spoil("falling at the end of list "+strconv.Itoa(i), func(b []byte) { b[first+n-2], b[first+n-1] = b[first+n-1], b[first+n-2] })
		}
		first += len(lists[i])
	}
	spoil("a place behind the last", func(b []byte) { b[used] = 1 })
	spoil("a place at the end", func(b []byte) { b[most-1] = 255 })
	spoil("one twice", func(b []byte) {
		n := int(b[most])
		copy(b[n+1:most], b[n:most])
		b[n] = b[n-1]
		for i := range lists {
			b[most+i]++
		}
	})
	return out
}

// P5.4: hints that can't be unpacked, even if they could be read as the right ones.
func TestVerifyHintsRespelt(t *testing.T) {
	inAll(t, func(t *testing.T, set int) {
		pk, sk := mustKeys(t, set, seedOf(set))
		s := slowStart(set, sk, nil, nil, zeroes)
		n := 0
		for !s.enough(s.slowTry(n)) {
			n++
		}
		a := s.slowTry(n)
		sig := s.signature(a)
		if !Verify(set, pk, nil, nil, sig) || a.hints >= s.w || len(a.lists[0]) == 0 {
			t.Fatal("no signature to respell")
		}
		head := sig[:len(sig)-s.w-s.k]
		for what, hints := range respelt(a.lists, s.w) {
			if Verify(set, pk, nil, nil, slices.Concat(head, hints)) {
				t.Errorf("%s is verified", what)
			}
		}
	})
}

// P5.4: other hints that can be unpacked, and ends of lists that can't be.
func TestVerifyOtherHints(t *testing.T) {
	inAll(t, func(t *testing.T, set int) {
		pk, sk := mustKeys(t, set, seedOf(set))
		s := slowSets[set]
		sig := mustSign(t, set, sk, nil, nil, zeroes)
		cut := len(sig) - s.w - s.k
		check := func(what string, hints []byte) {
			if len(hints) != s.w+s.k || Verify(set, pk, nil, nil, slices.Concat(sig[:cut], hints)) {
				t.Errorf("%s is verified", what)
			}
		}
		lists, _ := slowRead(sig[cut:], s.k, s.w)
		for i := range lists {
			fewer := slices.Clone(lists)
			fewer[i] = fewer[i][1:]
			check("one hint fewer", slowPlaces(fewer, s.w))
			more := slices.Clone(lists)
			more[i] = slices.Clone(more[i])
			for at := range 256 {
				if !slices.Contains(more[i], at) {
					more[i] = append(more[i], at)
					break
				}
			}
			slices.Sort(more[i])
			check("one hint more", slowPlaces(more, s.w))
			for _, end := range []int{0, s.w + 1, 255} {
				b := slices.Clone(sig[cut:])
				b[s.w+i] = byte(end)
				check("an end of a list at "+strconv.Itoa(end), b)
			}
		}
		check("no hints", make([]byte, s.w+s.k))
		check("all bytes 255", bytes.Repeat([]byte{255}, s.w+s.k))
	})
}

// P5.4: bytes of the right lengths that no call has made.
func TestVerifyDrawnBytes(t *testing.T) {
	inAll(t, func(t *testing.T, set int) {
		pk, _ := mustKeys(t, set, seedOf(set))
		s := slowSets[set]
		for n := range int64(20) {
			drawnKey, sig := drawn(n, sizes[set][0]), drawn(n+100, sizes[set][2])
			unpackable := slices.Clone(sig)
			clear(unpackable[len(sig)-s.w-s.k:])
			low := slices.Clone(unpackable) // z all near 0, so that only c' can be wrong
			for at := range 256 * s.l {
				putNumber(low[s.c:], at, s.maskBits, s.g1-int(sig[at%len(sig)]))
			}
			for _, key := range [][]byte{pk, drawnKey, make([]byte, len(pk)), bytes.Repeat([]byte{255}, len(pk))} {
				for _, x := range [][]byte{sig, unpackable, low, make([]byte, len(sig)), bytes.Repeat([]byte{255}, len(sig))} {
					if Verify(set, key, nil, nil, x) {
						t.Error("drawn bytes are verified")
					}
				}
			}
		}
	})
}

// P5.4: what is verified is what the chapter's words verify.
func TestVerifyAgrees(t *testing.T) {
	inAll(t, func(t *testing.T, set int) {
		r := rand.New(rand.NewSource(int64(set)))
		pk, sk := mustKeys(t, set, seedOf(set))
		for n := range 12 {
			msg := []byte(strconv.Itoa(n))
			sig := mustSign(t, set, sk, msg, msg, drawn(int64(n), 32))
			if n%2 == 1 {
				sig[r.Intn(len(sig))] ^= 1 << r.Intn(8)
			}
			if got, want := Verify(set, pk, msg, msg, sig), slowVerify(set, pk, msg, msg, sig); got != want || want != (n%2 == 0) {
				t.Errorf("case %d: %v, want %v", n, got, want)
			}
		}
	})
}

// plain is a public key with the same number everywhere in t1.
func plain(set, t1 int) []byte {
	pk := drawn(5, 32)
	for range slowSets[set].k {
		pk = append(pk, slowPack(slices.Repeat([]int{t1}, 256), 10)...)
	}
	return pk
}

// forged is a signature with this z and these hints, if c t1 2^13 of the key is so small that it changes no high part:
// then anybody can make one.
func forged(set int, pk, msg []byte, z, lists [][]int) []byte {
	s := slowSets[set]
	rows, _ := s.slowMatrix(pk[:32])
	var high []byte
	for i, a := range slowTimes(rows, z) {
		var list []int
		for at, r := range a {
			list = append(list, slowUse(slices.Contains(lists[i], at), r, s.g2))
		}
		high = append(high, slowPack(list, s.highBits)...)
	}
	short := slowHash(s.c, slowMessage(slowHash(64, pk), nil, msg), high)
	return s.signature(attempt{short: short, z: z, lists: lists})
}

// masked is a z whose numbers are from -most to most.
func masked(r *rand.Rand, set, most int) [][]int {
	z := make([][]int, slowSets[set].l)
	for i := range z {
		for range 256 {
			z[i] = append(z[i], slowModulo(r.Intn(2*most+1)-most))
		}
	}
	return z
}

// places are so many hints, wherever they fall.
func places(r *rand.Rand, set, many int) [][]int {
	lists := make([][]int, slowSets[set].k)
	for _, at := range r.Perm(256 * len(lists))[:many] {
		lists[at/256] = append(lists[at/256], at%256)
	}
	for _, list := range lists {
		slices.Sort(list)
	}
	return lists
}

// P5.4: with a key that no call has made, whose t1 is 0, z of all sizes and as many hints as there may be are verified;
// z at g1 - b isn't, above 0 and below it, wherever it stands.
func TestVerifyForged(t *testing.T) {
	inAll(t, func(t *testing.T, set int) {
		s := slowSets[set]
		r := rand.New(rand.NewSource(7))
		most := s.g1 - s.b - 1
		check := func(what string, z, lists [][]int, want bool) {
			pk := plain(set, 0)
			sig := forged(set, pk, []byte("m"), z, lists)
			if slowVerify(set, pk, nil, []byte("m"), sig) != want {
				t.Fatalf("%s is not what it should be", what)
			}
			if Verify(set, pk, nil, []byte("m"), sig) != want {
				t.Errorf("%s: %v", what, !want)
			}
		}
		check("noughts", masked(r, set, 0), make([][]int, s.k), true)
		for _, hints := range []int{0, 1, s.w - 1, s.w} {
			check("drawn numbers and "+strconv.Itoa(hints)+" hints", masked(r, set, most), places(r, set, hints), true)
		}
		for i := range s.k {
			lists := make([][]int, s.k)
			lists[i] = slices.Sorted(slices.Values(r.Perm(256)[:s.w]))
			check("all hints in list "+strconv.Itoa(i), masked(r, set, most), lists, true)
		}
		for _, n := range []int{most, most + 1, most + 2, s.g1 - 1, s.g1} {
			for _, at := range []int{0, 255, 256*s.l - 1} {
				for _, sign := range []int{1, -1} {
					if n*sign == -s.g1 { // no bytes mean it
						continue
					}
					z := masked(r, set, most)
					z[at/256][at%256] = slowModulo(n * sign)
					check("the number "+strconv.Itoa(n*sign), z, places(r, set, s.w), n == most)
				}
			}
		}
	})
}

// P5.4: with a key whose t1 is 1023 everywhere, which is -1 times 2^13, what fits is verified.
func TestVerifyForgedGreatT(t *testing.T) {
	inAll(t, func(t *testing.T, set int) {
		r := rand.New(rand.NewSource(8))
		for seen := map[bool]int{}; seen[true] == 0 || seen[false] == 0; {
			z, lists := masked(r, set, slowSets[set].g1/2), places(r, set, slowSets[set].w)
			pk := plain(set, 1023)
			sig := forged(set, pk, nil, z, lists)
			want := slowVerify(set, pk, nil, nil, sig)
			if got := Verify(set, pk, nil, nil, sig); got != want {
				t.Fatalf("%v, want %v", got, want)
			}
			seen[want]++
		}
	})
}

// P5.4: a key that is too long is none, even if the signature was made for it as it is.
func TestVerifyForgedLongKey(t *testing.T) {
	inAll(t, func(t *testing.T, set int) {
		r := rand.New(rand.NewSource(9))
		z, lists := masked(r, set, 1000), places(r, set, 9)
		for _, more := range []int{0, 1, 320} {
			pk := append(plain(set, 0), make([]byte, more)...)
			if got := Verify(set, pk, nil, nil, forged(set, pk, nil, z, lists)); got != (more == 0) {
				t.Errorf("%d bytes more: %v", more, got)
			}
		}
	})
}
