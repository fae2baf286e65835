package vault

import (
	"encoding/binary"
	"math"
	"reflect"
	"slices"
	"testing"
	"unsafe"

	"chancery/api"
	"chancery/dsa"
	"chancery/plate"
	"chancery/round"
	"chancery/scheme"
	"chancery/shake"
	"chancery/store"
	"chancery/wal"
)

// P18.3: each number once, from 0 on, of whatever messages and draws, through openings; then ErrUsed, for ever.
func TestSignInOrder(t *testing.T) {
	for kind, count := range counts {
		for every := 1; every < 6; every += 2 {
			h := newHouse(t, 20)
			h.create(t, "a", kind, seedOf(kind))
			for n := range count {
				sig := h.sign(t, "a", drawn(int64(n/2), 100*(n/2)), drawOf(n/3))
				if numberOf(t, kind, sig) != n {
					t.Fatalf("the signature %d has the number %d", n, numberOf(t, kind, sig))
				}
				if n%every == 0 {
					h.reopen(t)
				}
			}
			for range 4 {
				h.refuseSign(t, "a", drawOf(0), api.ErrUsed)
				h.reopen(t)
			}
		}
	}
}

// P18.3: numbers are a key's own, also of keys of one seed.
func TestNumbersApart(t *testing.T) {
	h := newHouse(t, 40)
	h.create(t, "a", 9, seedOf(0))
	h.create(t, "b", 8, seedOf(0))
	h.create(t, "ab", 9, seedOf(1))
	h.create(t, "c", 9, seedOf(0))
	for range 3 {
		h.sign(t, "a", nil, drawOf(0))
		h.sign(t, "b", nil, drawOf(0))
		h.sign(t, "b", nil, drawOf(0))
		h.sign(t, "ab", nil, drawOf(0))
	}
	h.sign(t, "c", nil, drawOf(0))
	for range 5 {
		h.sign(t, "a", nil, drawOf(0))
	}
	h.refuseSign(t, "a", drawOf(0), api.ErrUsed)
	h.sign(t, "ab", nil, drawOf(0))
	h.sign(t, "c", nil, drawOf(0))
}

// P18.3: keys of the schemes 1 to 7 sign as often as one likes, and nothing is committed, also if the store is closed.
func TestSignWithoutNumbers(t *testing.T) {
	h := newHouse(t, 400)
	for kind := 1; kind < 8; kind++ {
		h.create(t, goodNames[kind], kind, seedOf(kind))
	}
	h.create(t, "a", 9, seedOf(0))
	sign := func() {
		for kind := 1; kind < 8; kind++ {
			for i := range 3 {
				h.still(t, "Sign", func() { h.sign(t, goodNames[kind], drawn(7, 10*i), drawOf(i)) })
			}
		}
	}
	sign()
	h.reopen(t)
	sign()
	h.p.Arm(0)
	fails(t, h.v, "a", nil, drawOf(0), api.ErrCrash)
	h.p.Revive(nil)
	sign()
}

// P18.3: messages of all lengths; nil and empty are one.
func TestMessages(t *testing.T) {
	h := newHouse(t, 400)
	h.create(t, "a", 8, seedOf(0))
	h.create(t, "b", 4, seedOf(0))
	for _, n := range []int{0, 1, 31, 32, 33, api.MaxMessage, api.MaxMessage + 1, 1 << 16, 1<<16 + 1, 1 << 18} {
		h.sign(t, "a", drawn(1, n), drawOf(0))
		h.sign(t, "b", drawn(1, n), drawOf(0))
	}
	if one, two := h.sign(t, "b", nil, drawOf(0)), h.sign(t, "b", []byte{}, drawOf(0)); !slices.Equal(one, two) {
		t.Error("nil and empty aren't one")
	}
}

// P18.3: a draw that hasn't 32 bytes, whether or not a signature is left, and whether or not the store is closed.
func TestWrongDraws(t *testing.T) {
	h := newHouse(t, 400)
	for kind := 1; kind < 10; kind++ {
		h.create(t, goodNames[kind-1], kind, seedOf(kind))
	}
	c, e := h.v.Change("used", 8, seedOf(1), 16)
	expect(t, "Change", e, api.OK)
	expect(t, "Commit", h.s.Commit([]store.Change{c}), api.OK)
	h.keys["used"] = slowKey{scheme: 8, seed: seedOf(1), next: 16}
	refuse := func() {
		for name := range h.keys {
			for _, n := range []int{0, 1, 16, 24, 31, 33, 64, 256 + 32, 1<<16 + 32} {
				h.refuseSign(t, name, drawn(1, n), api.ErrKey)
			}
		}
	}
	refuse()
	h.p.Arm(0)
	fails(t, h.v, "z", nil, drawOf(0)[1:], api.ErrKey)
	if h.p.Down() {
		t.Error("something was to be written")
	}
	fails(t, h.v, "zzzzzzzz", nil, drawOf(0), api.ErrCrash)
	h.p.Revive(nil)
	refuse()
	h.refuseSign(t, "used", drawOf(0), api.ErrUsed)
}

// P18.3: behind the plate's error the store is closed, and all that would be committed is refused; what is told stays.
func TestSignClosed(t *testing.T) {
	for kind := range counts {
		h := newHouse(t, 40)
		h.create(t, "a", kind, seedOf(0))
		h.sign(t, "a", nil, drawOf(0))
		h.p.Arm(0)
		fails(t, h.v, "a", nil, drawOf(0), api.ErrCrash)
		h.holds(t)
		for range 3 {
			h.holds(t)
			fails(t, h.v, "a", nil, drawOf(0), api.ErrClosed)
			h.p.Revive(nil)
		}
		h.reopen(t)
		h.holds(t)
		h.sign(t, "a", nil, drawOf(0))
	}
}

// lastGeneration is a house whose store has no generation left to begin, with a key.
func lastGeneration(t *testing.T, name string, k slowKey) *house {
	t.Helper()
	p := plate.New(16)
	log, e := wal.Open(p, 2, 9, math.MaxInt32)
	expect(t, "the log", e, api.OK)
	record := append([]byte{1, byte(4 + len(name))}, "key/"+name...)
	record = append(binary.BigEndian.AppendUint32(record, 37), k.bytes()...)
	expect(t, "its first record", log.Append(record), api.OK)
	mark := binary.BigEndian.AppendUint32(nil, math.MaxInt32)
	mark = binary.BigEndian.AppendUint32(mark, ^uint32(math.MaxInt32))
	expect(t, "the mark", p.Write(1, append(mark, make([]byte, 56)...)), api.OK)
	h := &house{p: p, keys: map[string]slowKey{name: k}}
	h.reopen(t)
	return h
}

// P18.3: where the store is full no number is used up, and nothing is told.
func TestSignFull(t *testing.T) {
	h := lastGeneration(t, "a", slowKey{scheme: 9, seed: seedOf(0), next: 2})
	h.holds(t)
	h.sign(t, "a", nil, drawOf(0))
	h.sign(t, "a", nil, drawOf(0))
	for range 3 {
		h.refuseSign(t, "a", drawOf(0), api.ErrFull)
		h.refuseSign(t, "a", drawOf(0)[1:], api.ErrKey)
		h.still(t, "Create", func() { expect(t, "Create", h.v.Create("b", 4, seedOf(1)), api.ErrFull) })
		h.reopen(t)
	}
	if n, _ := h.v.Left("a"); n != 4 {
		t.Error(n)
	}
	h = lastGeneration(t, "b", slowKey{scheme: 8, seed: seedOf(0), next: 15})
	h.sign(t, "b", nil, drawOf(0))
	h.refuseSign(t, "b", drawOf(0), api.ErrUsed)
}

// harden gives a signer of scheme 1 a secret key with which few tries are enough: all numbers of its t0 are far from 0.
func harden(s *scheme.Signer, seed []byte) {
	_, sk, _ := dsa.Keys(44, seed)
	signs := shake.Sum256([]byte("t0"), 4*32)
	list := make([]int, 4*256)
	for i := range list {
		list[i] = 4096 - 3700
		if signs[i/8]>>(i%8)&1 == 1 {
			list[i] = 4096 + 3700
		}
	}
	t0, _ := round.Pack(list, 13)
	field := reflect.ValueOf(s).Elem().FieldByName("secret")
	reflect.NewAt(field.Type(), unsafe.Pointer(field.UnsafeAddr())).Elem().SetBytes(slices.Concat(sk[:len(sk)-len(t0)], t0))
}

// P18.3: a message for which 200 tries aren't enough. No seed is known whose key has such, so the signer that is open is given another secret key.
func TestSignTries(t *testing.T) {
	seed, draw := make([]byte, 32), make([]byte, 32)
	for i := range seed {
		seed[i], draw[i] = byte(1+i), byte(200+i)
	}
	h := newHouse(t, 40)
	h.create(t, "a", 1, seed)
	harden(h.v.signers["a"].signer, seed)
	before := h.content(t)
	fails(t, h.v, "a", []byte("310"), draw, api.ErrTries)
	fails(t, h.v, "a", []byte("310"), draw[1:], api.ErrKey)
	if sig, e := h.v.Sign("a", []byte("2846"), draw); e != api.OK || len(sig) != 2420 {
		t.Errorf("a message for which they are enough: %d bytes, %d", len(sig), e)
	}
	if h.content(t) != before {
		t.Error("something changed")
	}
	h.reopen(t)
	h.sign(t, "a", []byte("310"), draw)
}
