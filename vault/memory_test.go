package vault

import (
	"bytes"
	"slices"
	"testing"
	"unsafe"

	"chancery/api"
	"chancery/store"
)

// roomy is b with spare room behind it, in which something stands.
func roomy(b []byte) []byte {
	all := append(slices.Clone(b), bytes.Repeat([]byte{0xa5}, 100)...)
	return all[:len(b)]
}

// untouched tells whether a roomy b is as it was made of b.
func untouched(got, b []byte) bool {
	room := got[:len(b)+100]
	return bytes.Equal(room[:len(b)], b) && bytes.Equal(room[len(b):], bytes.Repeat([]byte{0xa5}, 100))
}

// spoil writes over a list and its spare room.
func spoil(b []byte) {
	for i := range b[:cap(b)] {
		b[:cap(b)][i] ^= 0xa5
	}
}

// The rules: what is handed in isn't changed, its spare room neither, also by a call that is refused; nor is it kept.
func TestArgumentsAreTheCallers(t *testing.T) {
	for kind := 1; kind < 10; kind++ {
		h := newHouse(t, 400)
		msg := []byte("message")
		seed, draw, text := roomy(seedOf(kind)), roomy(drawOf(kind)), roomy(msg)
		h.create(t, "a", kind, seed)
		c, e := h.v.Change("b", kind, seed, 0)
		expect(t, "Change", e, api.OK)
		sig := h.sign(t, "a", text, draw)
		h.refuseCreate(t, "a", kind, seed, api.ErrTwice)
		h.refuseCreate(t, "c", 0, seed, api.ErrSet)
		h.refuseCreate(t, "c", kind, text, api.ErrKey)
		h.refuseSign(t, "c", draw, api.ErrNone)
		h.refuseSign(t, "a", text, api.ErrKey)
		if !untouched(seed, seedOf(kind)) || !untouched(draw, drawOf(kind)) || !untouched(text, msg) {
			t.Fatal("an argument was changed")
		}
		was := slices.Clone(sig)
		for _, b := range [][]byte{seed, draw, text} {
			spoil(b)
		}
		if !bytes.Equal(sig, was) {
			t.Fatal("a signature hangs on the arguments' memory")
		}
		h.commit(t, c)
		h.keys["b"] = slowKey{scheme: kind, seed: seedOf(kind)}
		h.sign(t, "a", msg, drawOf(0))
		h.sign(t, "b", msg, drawOf(0))
	}
}

// The rules: what is told is new memory, its spare room too.
func TestAnswersAreNew(t *testing.T) {
	for kind := 1; kind < 10; kind++ {
		h := newHouse(t, 400)
		h.create(t, "a", kind, seedOf(kind))
		_, one, _ := h.v.Public("a")
		_, two, _ := h.v.Public("a")
		was := slices.Clone(two)
		spoil(one)
		if !bytes.Equal(two, was) {
			t.Fatal("two answers share memory")
		}
		h.holds(t)
		first := h.sign(t, "a", nil, drawOf(0))
		second := h.sign(t, "a", nil, drawOf(0))
		was = slices.Clone(second)
		spoil(first)
		if !bytes.Equal(second, was) {
			t.Fatal("two signatures share memory")
		}
		h.holds(t)
		h.sign(t, "a", nil, drawOf(0))
	}
}

// The rules: so are changes and names.
func TestChangesAreNew(t *testing.T) {
	h := newHouse(t, 400)
	h.create(t, "a", 9, seedOf(0))
	seed := seedOf(1)
	c, _ := h.v.Change("b", 9, seed, 3)
	d, _ := h.v.Change("b", 9, seed, 3)
	spoil(c.Key)
	if !bytes.Equal(c.Value, d.Value) {
		t.Error("the key and the value of a change share memory")
	}
	spoil(c.Value)
	if !bytes.Equal(seed, seedOf(1)) {
		t.Error("a change shares memory with the seed")
	}
	h.commit(t, d)
	spoil(d.Key)
	spoil(d.Value)
	h.keys["b"] = slowKey{scheme: 9, seed: seedOf(1), next: 3}
	h.holds(t)
	names := h.v.Names()
	clear(names[:cap(names)])
	h.holds(t)
}

// The rules: a name that was handed in isn't kept: what is written over it behind the call changes nothing.
func TestNamesAreNotKept(t *testing.T) {
	h := newHouse(t, 400)
	h.create(t, "ca", 9, seedOf(0))
	h.reopen(t)
	b := []byte("ca")
	name := unsafe.String(&b[0], len(b))
	if _, e := h.v.Left(name); e != api.OK {
		t.Fatal(e)
	}
	expect(t, "Create", h.v.Create(unsafe.String(&b[1], 1), 4, seedOf(1)), api.OK)
	h.keys["a"] = slowKey{scheme: 4, seed: seedOf(1)}
	if _, e := h.v.Sign(unsafe.String(&b[1], 1), nil, drawOf(0)); e != api.OK {
		t.Fatal(e)
	}
	spoil(b)
	for kept := range h.v.signers {
		if kept != "ca" && kept != "a" {
			t.Errorf("%q is kept", kept)
		}
	}
	h.holds(t)
	h.sign(t, "ca", nil, drawOf(0))
}

// The rules: stores that are worked on by others in between: what is told hangs on what the store has.
func TestOtherVaultOfTheStore(t *testing.T) {
	h := newHouse(t, 400)
	h.create(t, "a", 9, seedOf(0))
	first := h.v
	h.sign(t, "a", nil, drawOf(0))
	h.v = Open(h.s)
	h.sign(t, "a", nil, drawOf(0))
	h.create(t, "b", 4, seedOf(1))
	h.v = first
	h.holds(t)
	h.sign(t, "a", nil, drawOf(0))
	h.v = Open(h.s)
	h.commit(t, store.Change{Key: []byte("key/b"), Gone: true})
	delete(h.keys, "b")
	h.holds(t)
}
