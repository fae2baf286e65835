package scheme

import (
	"bytes"
	"slices"
	"sync"
	"testing"
)

// roomy is b with spare room behind it, in which something stands.
func roomy(b []byte) []byte {
	all := append(slices.Clone(b), bytes.Repeat([]byte{0xa5}, 100)...)
	return all[:len(b)]
}

// untouched tells whether a roomy b is as it was made of b.
func untouched(got, b []byte) bool {
	room := got[:len(b)+100]
	return bytes.Equal(room[:len(b)], b) && bytes.Equal(room[len(b):], bytes.Repeat([]byte{0xa5}, 100))
}

// spoil writes over an answer and its spare room.
func spoil(b []byte) {
	for i := range b[:cap(b)] {
		b[:cap(b)][i] ^= 0xff
	}
}

// The rules: what is handed in isn't changed, its spare room neither, also by a call that is refused.
func TestArgumentsAreNotChanged(t *testing.T) {
	inAll(t, func(t *testing.T, scheme int) {
		msg := []byte("message")
		pk, sig := slowPublic(t, scheme, seed()), slowSign(t, scheme, seed(), 1, msg, draw())
		plain := [][]byte{seed(), msg, draw(), pk, sig}
		var room [][]byte
		for _, b := range plain {
			room = append(room, roomy(b))
		}
		s := mustMake(t, scheme, room[0])
		if !bytes.Equal(s.Public(), pk) || !bytes.Equal(mustSign(t, s, 1, room[1], room[2]), sig) || !Verify(scheme, room[3], room[1], room[4]) {
			t.Error("with spare room behind the arguments they are answered otherwise")
		}
		Make(scheme, room[1])
		Make(0, room[0])
		s.Sign(-1, room[1], room[2])
		s.Sign(1, room[1], room[1])
		Verify(scheme, room[3], room[0], room[4])
		Verify(scheme, room[4], room[1], room[3])
		Verify(10, room[3], room[1], room[4])
		for i, b := range plain {
			if !untouched(room[i], b) {
				t.Errorf("argument %d was changed", i)
			}
		}
	})
}

// The rules: what is told is new memory; it shares none with the signer, with arguments or with other answers.
func TestAnswersAreNew(t *testing.T) {
	inAll(t, func(t *testing.T, scheme int) {
		given, msg, b := seed(), []byte("message"), draw()
		wantPk, wantSig := slowPublic(t, scheme, given), slowSign(t, scheme, given, 1, msg, b)
		s := mustMake(t, scheme, given)
		pk, sig := s.Public(), mustSign(t, s, 1, msg, b)
		otherPk, otherSig := s.Public(), mustSign(t, s, 1, msg, b)
		spoil(pk)
		spoil(sig)
		if !bytes.Equal(otherPk, wantPk) || !bytes.Equal(otherSig, wantSig) {
			t.Error("two answers share memory")
		}
		if !bytes.Equal(s.Public(), wantPk) || !bytes.Equal(mustSign(t, s, 1, msg, b), wantSig) {
			t.Error("answers share memory with the signer")
		}
		if !bytes.Equal(given, seed()) || !bytes.Equal(b, draw()) || string(msg) != "message" {
			t.Error("answers share memory with the arguments")
		}
	})
}

// The rules: what is handed in isn't kept: it may be written over behind the call.
func TestNothingIsKept(t *testing.T) {
	inAll(t, func(t *testing.T, scheme int) {
		given, msg, b := seed(), []byte("message"), draw()
		wantPk, wantSig := slowPublic(t, scheme, given), slowSign(t, scheme, given, 1, msg, b)
		s := mustMake(t, scheme, given)
		spoil(given)
		if !bytes.Equal(s.Public(), wantPk) || !bytes.Equal(mustSign(t, s, 1, msg, b), wantSig) {
			t.Error("the signer hangs on the seed's memory")
		}
		sig := mustSign(t, s, 1, msg, b)
		spoil(msg)
		spoil(b)
		if !bytes.Equal(sig, wantSig) {
			t.Error("a signature hangs on the arguments' memory")
		}
		other := mustMake(t, scheme, draw())
		mustSign(t, other, 1, nil, seed())
		if !bytes.Equal(s.Public(), wantPk) || !bytes.Equal(mustSign(t, s, 1, []byte("message"), draw()), wantSig) {
			t.Error("a signer hangs on another one")
		}
	})
}

// The rules: calls hang on their arguments and their signer alone, also while others run.
func TestCallsAtOneTime(t *testing.T) {
	var group sync.WaitGroup
	for _, scheme := range schemes {
		wantPk, want := slowPublic(t, scheme, seed()), slowSign(t, scheme, seed(), 1, nil, draw())
		for range 2 {
			group.Go(func() {
				s, _ := Make(scheme, seed())
				sig, _ := s.Sign(1, nil, draw())
				if !bytes.Equal(s.Public(), wantPk) || !bytes.Equal(sig, want) || !Verify(scheme, wantPk, nil, sig) {
					t.Error("answered otherwise")
				}
			})
		}
	}
	group.Wait()
}
