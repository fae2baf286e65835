package dsa

import (
	"bytes"
	"slices"
	"sync"
	"testing"

	"chancery/api"
)

// roomy is b with spare room behind it, in which something stands.
func roomy(b []byte) []byte {
	all := append(slices.Clone(b), bytes.Repeat([]byte{0xa5}, 100)...)
	return all[:len(b)]
}

// untouched tells whether a roomy b is as it was made of b.
func untouched(got, b []byte) bool {
	room := got[:len(b)+100]
	return bytes.Equal(room[:len(b)], b) && bytes.Equal(room[len(b):], bytes.Repeat([]byte{0xa5}, 100))
}

// spoil writes over an answer and its spare room.
func spoil(b []byte) {
	for i := range b[:cap(b)] {
		b[:cap(b)][i] ^= 0xff
	}
}

// The rules: what is handed in isn't changed, its spare room neither, also by a call that is refused.
func TestArgumentsAreNotChanged(t *testing.T) {
	inAll(t, func(t *testing.T, set int) {
		seed, ctx, msg, rnd := seedOf(set), []byte("context"), []byte("message"), rising(32)
		pk, sk := mustKeys(t, set, seed)
		sig := mustSign(t, set, sk, ctx, msg, rnd)
		plain := [][]byte{seed, ctx, msg, rnd, pk, sk, sig}
		var room [][]byte
		for _, b := range plain {
			room = append(room, roomy(b))
		}
		Keys(set, room[0])
		got, e := Sign(set, room[5], room[1], room[2], room[3], api.MaxTries)
		if e != api.OK || !bytes.Equal(got, sig) || !Verify(set, room[4], room[1], room[2], room[6]) {
			t.Error("with spare room behind the arguments they are answered otherwise")
		}
		Sign(set, room[5], room[1], room[2], room[3], 0)
		Sign(set, room[5], room[1], room[2], room[2], 1)
		Sign(set, room[4], room[1], room[2], room[3], 1)
		Keys(set, room[1])
		Verify(set, room[4], room[1], room[3], room[6])
		Verify(set, room[5], room[1], room[2], room[6])
		for i, b := range plain {
			if !untouched(room[i], b) {
				t.Errorf("argument %d was changed", i)
			}
		}
	})
}

// The rules: what is told is new memory; it shares none with arguments, with other answers or within one.
func TestAnswersAreNew(t *testing.T) {
	inAll(t, func(t *testing.T, set int) {
		seed, ctx, msg, rnd := seedOf(set), []byte("context"), []byte("message"), rising(32)
		pk, sk := mustKeys(t, set, seed)
		sig := mustSign(t, set, sk, ctx, msg, rnd)
		wantPk, wantSk, wantSig := slices.Clone(pk), slices.Clone(sk), slices.Clone(sig)
		spoil(pk)
		if !bytes.Equal(sk, wantSk) {
			t.Error("the keys share memory")
		}
		otherPk, otherSk := mustKeys(t, set, seed)
		if !bytes.Equal(otherPk, wantPk) || !bytes.Equal(otherSk, wantSk) {
			t.Error("the next keys are others")
		}
		spoil(sig)
		if !bytes.Equal(sk, wantSk) || !bytes.Equal(mustSign(t, set, sk, ctx, msg, rnd), wantSig) {
			t.Error("a signature shares memory with what it was made of, or with the next one")
		}
		spoil(otherSk)
		if !bytes.Equal(sk, wantSk) || !bytes.Equal(seed, seedOf(set)) || !bytes.Equal(rnd, rising(32)) {
			t.Error("keys share memory with the seed or with others")
		}
	})
}

// The rules: nothing is kept: what is handed in may be written over behind the call, and calls do not hang on those ahead of them.
func TestNothingIsKept(t *testing.T) {
	inAll(t, func(t *testing.T, set int) {
		seed := seedOf(set)
		pk, sk := mustKeys(t, set, seed)
		want := mustSign(t, set, sk, nil, []byte("m"), zeroes)
		clear(seed)
		wantPk, _ := slowKeys(set, seedOf(set))
		if !bytes.Equal(pk, wantPk) {
			t.Error("the public key hangs on the seed's memory")
		}
		key, msg, rnd := slices.Clone(sk), []byte("m"), make([]byte, 32)
		got := mustSign(t, set, key, nil, msg, rnd)
		clear(key)
		clear(msg)
		rnd[0] = 1
		if !bytes.Equal(got, want) {
			t.Error("the signature hangs on the arguments' memory")
		}
		Sign(set, key, nil, msg, rnd, 1)
		Sign(set, nil, nil, nil, nil, 1)
		Verify(set, pk, nil, msg, want)
		if !bytes.Equal(mustSign(t, set, sk, nil, []byte("m"), zeroes), want) || !Verify(set, pk, nil, []byte("m"), want) {
			t.Error("a call hangs on those ahead of it")
		}
	})
}

// The rules: calls hang on their arguments alone, also while others run.
func TestCallsAtOneTime(t *testing.T) {
	var group sync.WaitGroup
	for _, set := range sets {
		pk, sk := mustKeys(t, set, seedOf(set))
		want := mustSign(t, set, sk, nil, nil, zeroes)
		for range 4 {
			group.Go(func() {
				sig, _ := Sign(set, sk, nil, nil, zeroes, api.MaxTries)
				if !bytes.Equal(sig, want) || !Verify(set, pk, nil, nil, sig) {
					t.Error("answered otherwise")
				}
			})
		}
	}
	group.Wait()
}
