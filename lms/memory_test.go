package lms

import (
	"bytes"
	"slices"
	"sync"
	"testing"

	"chancery/api"
)

// roomy is b with spare room behind it, in which something stands.
func roomy(b []byte) []byte {
	all := append(slices.Clone(b), bytes.Repeat([]byte{0xa5}, 100)...)
	return all[:len(b)]
}

// untouched tells whether a roomy b is as it was made of b.
func untouched(got, b []byte) bool {
	room := got[:len(b)+100]
	return bytes.Equal(room[:len(b)], b) && bytes.Equal(room[len(b):], bytes.Repeat([]byte{0xa5}, 100))
}

// spoil writes over an answer and its spare room.
func spoil(b []byte) {
	for i := range b[:cap(b)] {
		b[:cap(b)][i] ^= 0xff
	}
}

// remembered are the keys of these tests: of each number of levels.
func remembered() []Key { return []Key{keyOf(1, 2, 8), keyOf(2, 1, 4), keyOf(3, 1, 2)} }

// The rules: what is handed in isn't changed, its spare room neither, also by a call that is refused.
func TestArgumentsAreNotChanged(t *testing.T) {
	inAll(t, remembered(), func(t *testing.T, k Key) {
		msg, last := []byte("message"), k.Count()-1
		pk, sig := mustPublic(t, k), mustSign(t, k, last, msg)
		plain := [][]byte{k.Identity, k.Seed, msg, pk, sig}
		var room [][]byte
		for _, b := range plain {
			room = append(room, roomy(b))
		}
		same := k
		same.Identity, same.Seed = room[0], room[1]
		if !bytes.Equal(mustPublic(t, same), pk) || !bytes.Equal(mustSign(t, same, last, room[2]), sig) || same.Count() != k.Count() {
			t.Error("with spare room behind the arguments they are answered otherwise")
		}
		if leaves, ok := Leaves(room[4]); !ok || !slices.Equal(leaves, slowLeaves(k, last)) || !Verify(room[3], room[2], room[4]) {
			t.Error("with spare room behind the signature it is answered otherwise")
		}
		Sign(same, -1, room[2])
		Verify(room[3], room[0], room[4])
		Verify(room[4], room[2], room[3])
		Leaves(room[3])
		wrong := same
		wrong.Identity, wrong.Seed = room[1], room[0]
		Sign(wrong, 0, room[2])
		Public(wrong)
		wrong.Count()
		for i, b := range plain {
			if !untouched(room[i], b) {
				t.Errorf("argument %d was changed", i)
			}
		}
	})
}

// The rules: what is told is new memory; it shares none with arguments or with other answers.
func TestAnswersAreNew(t *testing.T) {
	inAll(t, remembered(), func(t *testing.T, k Key) {
		msg, n := []byte("message"), k.Count()-2
		pk, sig := mustPublic(t, k), mustSign(t, k, n, msg)
		wantPk, wantSig := slices.Clone(pk), slices.Clone(sig)
		otherPk, otherSig := mustPublic(t, k), mustSign(t, k, n, msg)
		leaves, _ := Leaves(sig)
		again, _ := Leaves(sig)
		spoil(pk)
		spoil(sig)
		leaves = leaves[:cap(leaves)]
		for i := range leaves {
			leaves[i] = -1
		}
		if !bytes.Equal(otherPk, wantPk) || !bytes.Equal(otherSig, wantSig) || !slices.Equal(again, slowLeaves(k, n)) {
			t.Error("two answers share memory")
		}
		fresh := keyOf(k.Levels, k.Height, k.Width)
		if !bytes.Equal(k.Identity, fresh.Identity) || !bytes.Equal(k.Seed, fresh.Seed) || string(msg) != "message" {
			t.Error("answers share memory with the arguments")
		}
		if !bytes.Equal(mustPublic(t, k), wantPk) || !bytes.Equal(mustSign(t, k, n, msg), wantSig) || !Verify(wantPk, msg, wantSig) {
			t.Error("a call hangs on what was told ahead of it")
		}
	})
}

// The rules: nothing is kept: what is handed in may be written over behind the call, and calls do not hang on those ahead of them.
func TestNothingIsKept(t *testing.T) {
	inAll(t, remembered(), func(t *testing.T, k Key) {
		want := mustSign(t, k, 0, []byte("m"))
		wantPk := mustPublic(t, k)
		other, msg := keyOf(k.Levels, k.Height, k.Width), []byte("m")
		got, pk := mustSign(t, other, 0, msg), mustPublic(t, other)
		given := slices.Clone(got)
		leaves, _ := Leaves(given)
		clear(other.Identity)
		clear(other.Seed)
		clear(msg)
		spoil(given)
		if !bytes.Equal(got, want) || !bytes.Equal(pk, wantPk) || !slices.Equal(leaves, make([]int, k.Levels)) {
			t.Error("an answer hangs on the arguments' memory")
		}
		Sign(other, 0, msg)
		Sign(k, 1, []byte("another message"))
		Public(other)
		Verify(pk, msg, want)
		if !bytes.Equal(mustSign(t, k, 0, []byte("m")), want) || !Verify(wantPk, []byte("m"), want) || !bytes.Equal(mustPublic(t, k), wantPk) {
			t.Error("a call hangs on those ahead of it")
		}
	})
}

// The rules: calls hang on their arguments alone, also while others run.
func TestCallsAtOneTime(t *testing.T) {
	var group sync.WaitGroup
	for _, k := range remembered() {
		pk, want := mustPublic(t, k), mustSign(t, k, 1, nil)
		for range 4 {
			group.Go(func() {
				sig, e := Sign(k, 1, nil)
				leaves, ok := Leaves(sig)
				if e != api.OK || !bytes.Equal(sig, want) || !Verify(pk, nil, sig) || !ok || !slices.Equal(leaves, slowLeaves(k, 1)) {
					t.Error("answered otherwise")
				}
			})
		}
	}
	group.Wait()
}
