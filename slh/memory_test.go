package slh

import (
	"bytes"
	"slices"
	"sync"
	"testing"

	"chancery/api"
)

// roomy is b with spare room behind it, in which something stands.
func roomy(b []byte) []byte {
	all := append(slices.Clone(b), bytes.Repeat([]byte{0xa5}, 100)...)
	return all[:len(b)]
}

// untouched tells whether a roomy b is as it was made of b.
func untouched(got, b []byte) bool {
	room := got[:len(b)+100]
	return bytes.Equal(room[:len(b)], b) && bytes.Equal(room[len(b):], bytes.Repeat([]byte{0xa5}, 100))
}

// spoil writes over an answer and its spare room.
func spoil(b []byte) {
	for i := range b[:cap(b)] {
		b[:cap(b)][i] ^= 0xff
	}
}

// The rules: what is handed in isn't changed, its spare room neither, also by a call that is refused.
func TestArgumentsAreNotChanged(t *testing.T) {
	inAll(t, func(t *testing.T, set int) {
		s, f, p := seedsOf(set)
		ctx, msg, rnd := []byte("context"), []byte("message"), rndOf(set)
		pk, sk := mustKeys(t, set, s, f, p)
		sig := mustSign(t, set, sk, ctx, msg, rnd)
		plain := [][]byte{s, f, p, ctx, msg, rnd, pk, sk, sig}
		var room [][]byte
		for _, b := range plain {
			room = append(room, roomy(b))
		}
		if gotPk, gotSk := mustKeys(t, set, room[0], room[1], room[2]); !bytes.Equal(gotPk, pk) || !bytes.Equal(gotSk, sk) {
			t.Error("with spare room behind the seeds the keys are others")
		}
		if got := mustSign(t, set, room[7], room[3], room[4], room[5]); !bytes.Equal(got, sig) || !Verify(set, room[6], room[3], room[4], room[8]) {
			t.Error("with spare room behind the arguments they are answered otherwise")
		}
		Keys(set, room[0], room[1], room[3])
		Keys(0, room[0], room[1], room[2])
		Sign(set, room[7], room[8], room[4], room[5])
		Sign(set, room[7], room[3], room[4], room[4])
		Sign(set, room[6], room[3], room[4], room[5])
		Verify(set, room[6], room[3], room[5], room[8])
		Verify(set, room[7], room[3], room[4], room[8])
		for i, b := range plain {
			if !untouched(room[i], b) {
				t.Errorf("argument %d was changed", i)
			}
		}
	})
}

// The rules: what is told is new memory; it shares none with arguments, with other answers or within one.
func TestAnswersAreNew(t *testing.T) {
	inAll(t, func(t *testing.T, set int) {
		s, f, p := seedsOf(set)
		ctx, msg, rnd := []byte("context"), []byte("message"), rndOf(set)
		pk, sk := mustKeys(t, set, s, f, p)
		sig := mustSign(t, set, sk, ctx, msg, rnd)
		wantPk, wantSk, wantSig := slices.Clone(pk), slices.Clone(sk), slices.Clone(sig)
		spoil(pk)
		if !bytes.Equal(sk, wantSk) {
			t.Error("the keys share memory")
		}
		otherPk, otherSk := mustKeys(t, set, s, f, p)
		if !bytes.Equal(otherPk, wantPk) || !bytes.Equal(otherSk, wantSk) {
			t.Error("the next keys are others")
		}
		spoil(sig)
		if !bytes.Equal(sk, wantSk) || !bytes.Equal(mustSign(t, set, sk, ctx, msg, rnd), wantSig) {
			t.Error("a signature shares memory with what it was made of, or with the next one")
		}
		spoil(otherSk)
		wantS, wantF, wantP := seedsOf(set)
		if !bytes.Equal(sk, wantSk) || !bytes.Equal(otherPk, wantPk) || !bytes.Equal(rnd, rndOf(set)) {
			t.Error("keys share memory with others")
		}
		if !bytes.Equal(s, wantS) || !bytes.Equal(f, wantF) || !bytes.Equal(p, wantP) {
			t.Error("keys share memory with the seeds")
		}
	})
}

// The rules: nothing is kept: what is handed in may be written over behind the call, and calls do not hang on those ahead of them.
func TestNothingIsKept(t *testing.T) {
	inAll(t, func(t *testing.T, set int) {
		s, f, p := seedsOf(set)
		pk, sk := mustKeys(t, set, s, f, p)
		want := mustSign(t, set, sk, nil, []byte("m"), rndOf(set))
		for _, seed := range [][]byte{s, f, p} {
			clear(seed)
		}
		s, f, p = seedsOf(set)
		wantPk, wantSk := slowKeys(set, s, f, p)
		if !bytes.Equal(pk, wantPk) || !bytes.Equal(sk, wantSk) {
			t.Error("the keys hang on the seeds' memory")
		}
		key, msg, rnd := slices.Clone(sk), []byte("m"), rndOf(set)
		got := mustSign(t, set, key, nil, msg, rnd)
		clear(key)
		clear(msg)
		clear(rnd)
		if !bytes.Equal(got, want) {
			t.Error("the signature hangs on the arguments' memory")
		}
		Sign(set, key, nil, msg, rnd)
		Sign(set, nil, nil, nil, nil)
		Verify(set, pk, nil, msg, want)
		if !bytes.Equal(mustSign(t, set, sk, nil, []byte("m"), rndOf(set)), want) || !Verify(set, pk, nil, []byte("m"), want) {
			t.Error("a call hangs on those ahead of it")
		}
	})
}

// The rules: calls hang on their arguments alone, also while others run.
func TestCallsAtOneTime(t *testing.T) {
	var group sync.WaitGroup
	for _, set := range sets {
		pk, sk := keysOf(t, set)
		want := mustSign(t, set, sk, nil, nil, rndOf(set))
		for range 4 {
			group.Go(func() {
				sig, e := Sign(set, sk, nil, nil, rndOf(set))
				if e != api.OK || !bytes.Equal(sig, want) || !Verify(set, pk, nil, nil, sig) {
					t.Error("answered otherwise")
				}
			})
		}
	}
	group.Wait()
}
