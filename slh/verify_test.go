package slh

import (
	"bytes"
	"slices"
	"strconv"
	"testing"
)

// P6.2: what Sign answers is verified, with contexts and messages of several lengths.
func TestVerify(t *testing.T) {
	inAll(t, func(t *testing.T, set int) {
		pk, sk := keysOf(t, set)
		for _, context := range []int{0, 1, 2, 254, 255} {
			for _, message := range []int{0, 1, 135, 136, 4096, 70000} {
				ctx, msg := drawn(1, context), drawn(2, message)
				sig := mustSign(t, set, sk, ctx, msg, drawn(3, slowSets[set].n))
				if !Verify(set, pk, ctx, msg, sig) {
					t.Errorf("a context of %d and a message of %d bytes aren't verified", context, message)
				}
			}
		}
		sig := mustSign(t, set, sk, nil, nil, rndOf(set))
		if !Verify(set, pk, []byte{}, []byte{}, sig) || !Verify(set, pk, nil, nil, sig) {
			t.Error("nil and empty aren't one")
		}
	})
}

// P6.2: what is made by the chapter's words is verified, of several keys.
func TestVerifyByTheWords(t *testing.T) {
	inAll(t, func(t *testing.T, set int) {
		n := slowSets[set].n
		for i := range int64(10) {
			pk, sk := slowKeys(set, drawn(i, n), drawn(i+100, n), drawn(i+200, n))
			ctx, msg := drawn(i, int(28*i)), drawn(i, int(i*i*i))
			sig := slowSign(set, sk, ctx, msg, drawn(i+300, n))
			if !slowVerify(set, pk, ctx, msg, sig) || !Verify(set, pk, ctx, msg, sig) {
				t.Errorf("case %d isn't verified", i)
			}
			spoilt := slices.Clone(sig)
			spoilt[int(i+1)*len(sig)/11] ^= 0x10
			if slowVerify(set, pk, ctx, msg, spoilt) || Verify(set, pk, ctx, msg, spoilt) {
				t.Errorf("case %d is verified, though it is spoilt", i)
			}
		}
	})
}

// P6.2: a signature that is spoilt in one place is none: in R, in the Fors secrets, in nodes, in Wots parts.
func TestVerifySpoilt(t *testing.T) {
	inAll(t, func(t *testing.T, set int) {
		pk, sk := keysOf(t, set)
		sig := mustSign(t, set, sk, []byte("c"), []byte("m"), rndOf(set))
		for at := range sig {
			spoilt := slices.Clone(sig)
			spoilt[at] ^= 1 << (at % 8)
			if Verify(set, pk, []byte("c"), []byte("m"), spoilt) {
				t.Errorf("byte %d doesn't count", at)
			}
		}
		if !Verify(set, pk, []byte("c"), []byte("m"), sig) {
			t.Error("it isn't verified")
		}
	})
}

// P6.2: two parts that stand beside one another aren't verified in the other order, nor is a part that is noughts.
func TestVerifyMoved(t *testing.T) {
	inAll(t, func(t *testing.T, set int) {
		n := slowSets[set].n
		pk, sk := keysOf(t, set)
		sig := mustSign(t, set, sk, nil, []byte("m"), rndOf(set))
		for at := 0; at+2*n <= len(sig); at += n {
			moved := slices.Concat(sig[:at], sig[at+n:at+2*n], sig[at:at+n], sig[at+2*n:])
			if Verify(set, pk, nil, []byte("m"), moved) {
				t.Errorf("parts %d and %d may stand in the other order", at/n, at/n+1)
			}
			noughts := slices.Clone(sig)
			clear(noughts[at : at+n])
			if Verify(set, pk, nil, []byte("m"), noughts) {
				t.Errorf("part %d may be noughts", at/n)
			}
		}
	})
}

// P6.2: it is verified with the same context, message, key and set alone.
func TestVerifyOther(t *testing.T) {
	inAll(t, func(t *testing.T, set int) {
		n := slowSets[set].n
		pk, sk := keysOf(t, set)
		sig := mustSign(t, set, sk, []byte("context"), []byte("message"), rndOf(set))
		for _, c := range [][2]string{
			{"", "message"}, {"context", ""}, {"", ""}, {"context", "messagf"}, {"contexu", "message"}, {"context", "message\x00"},
			{"context\x00", "message"}, {"contextm", "essage"}, {"contex", "tmessage"}, {"", "contextmessage"}, {"contextmessage", ""},
			{"message", "context"}, {"Context", "message"}, {"context", "Message"}, {"context", "essage"}, {"context", "messag"},
		} {
			if Verify(set, pk, []byte(c[0]), []byte(c[1]), sig) {
				t.Errorf("it is verified with %q", c)
			}
		}
		for at := range pk {
			other := slices.Clone(pk)
			other[at] ^= 1 << (at % 8)
			if Verify(set, other, []byte("context"), []byte("message"), sig) {
				t.Errorf("it is verified with a key that is spoilt at %d", at)
			}
		}
		otherPk, otherSk := mustKeys(t, set, drawn(1, n), drawn(2, n), drawn(3, n))
		other := mustSign(t, set, otherSk, []byte("context"), []byte("message"), rndOf(set))
		if Verify(set, otherPk, []byte("context"), []byte("message"), sig) || Verify(set, pk, []byte("context"), []byte("message"), other) {
			t.Error("it is verified with another key")
		}
		for _, another := range slices.Concat(sets, noSets) {
			if another != set && Verify(another, pk, []byte("context"), []byte("message"), sig) {
				t.Errorf("it is verified in the set %d", another)
			}
		}
		if !Verify(set, pk, []byte("context"), []byte("message"), sig) {
			t.Error("it isn't verified")
		}
	})
}

// P6.2: keys and signatures of other lengths are none.
func TestVerifyLengths(t *testing.T) {
	inAll(t, func(t *testing.T, set int) {
		pk, sk := keysOf(t, set)
		sig := mustSign(t, set, sk, nil, nil, rndOf(set))
		long := append(slices.Clone(sig), sig...)
		for _, n := range []int{0, 1, slowSets[set].n, len(sig) - slowSets[set].n, len(sig) - 1, len(sig) + 1, len(sig) + slowSets[set].n, 2 * len(sig)} {
			if Verify(set, pk, nil, nil, long[:n]) {
				t.Errorf("%d bytes are verified", n)
			}
		}
		if Verify(set, pk, nil, nil, sig[1:]) || Verify(set, pk, nil, nil, append([]byte{0}, sig...)) || Verify(set, pk, nil, nil, nil) {
			t.Error("the signature may lack its first byte, or have one ahead of it")
		}
		keys := append(slices.Clone(pk), pk...)
		for _, n := range []int{0, 1, len(pk) / 2, len(pk) - 1, len(pk) + 1, 2 * len(pk)} {
			if Verify(set, keys[:n], nil, nil, sig) {
				t.Errorf("with a key of %d bytes it is verified", n)
			}
		}
		if Verify(set, pk[1:], nil, nil, sig) || Verify(set, append([]byte{0}, pk...), nil, nil, sig) || Verify(set, nil, nil, nil, sig) || Verify(set, sk, nil, nil, sig) {
			t.Error("the key may lack its first byte, or have one ahead of it")
		}
	})
}

// P6.2: a context of more than 255 bytes is refused, also where the byte of its length would make it right.
func TestVerifyLongContext(t *testing.T) {
	inAll(t, func(t *testing.T, set int) {
		pk, sk := keysOf(t, set)
		for _, length := range []int{256, 257, 512, 1 << 16} {
			ctx := drawn(1, length)
			whole := append(slices.Clone(ctx), "message"...)
			short := length % 256
			sig := mustSign(t, set, sk, whole[:short], whole[short:], rndOf(set))
			if !Verify(set, pk, whole[:short], whole[short:], sig) {
				t.Error("it isn't verified")
			}
			if Verify(set, pk, ctx, []byte("message"), sig) {
				t.Errorf("a context of %d bytes is taken", length)
			}
		}
	})
}

// P6.2, P1: bytes of the right lengths that no call has made are no signatures.
func TestVerifyAnyBytes(t *testing.T) {
	inAll(t, func(t *testing.T, set int) {
		pk, _ := keysOf(t, set)
		size := sizes[set][2]
		strange := [][]byte{make([]byte, size), bytes.Repeat([]byte{255}, size)}
		for n := range int64(40) {
			strange = append(strange, drawn(n, size))
		}
		for i, sig := range strange {
			for _, key := range [][]byte{pk, make([]byte, len(pk)), bytes.Repeat([]byte{255}, len(pk)), drawn(int64(i), len(pk))} {
				if Verify(set, key, nil, []byte(strconv.Itoa(i)), sig) {
					t.Errorf("bytes %d are verified", i)
				}
			}
		}
	})
}

// P1: sets, keys and signatures of any lengths go together without a panic.
func TestAnyArguments(t *testing.T) {
	lengths := []int{0, 1, 16, 24, 32, 48, 64, 96, 128, 1312, 2112, 3144, 3232, 4000}
	for _, set := range slices.Concat(sets, noSets) {
		for _, a := range lengths {
			for _, b := range lengths {
				Keys(set, make([]byte, a), make([]byte, b), make([]byte, a))
				Sign(set, make([]byte, a), nil, nil, make([]byte, b))
				if Verify(set, make([]byte, a), nil, nil, make([]byte, b)) {
					t.Errorf("Verify(%d) of %d and %d noughts", set, a, b)
				}
			}
		}
	}
}
