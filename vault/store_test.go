package vault

import (
	"slices"
	"strings"
	"testing"

	"chancery/api"
	"chancery/store"
)

func (h *house) commit(t *testing.T, list ...store.Change) {
	t.Helper()
	expect(t, "Commit", h.s.Commit(list), api.OK)
}

func set(key string, value []byte) store.Change {
	return store.Change{Key: []byte(key), Value: value}
}

func gone(key string) store.Change { return store.Change{Key: []byte(key), Gone: true} }

// The chapter's bytes, as they stand in the store.
func TestBytes(t *testing.T) {
	h := newHouse(t, 100)
	seed := []byte("0123456789abcdefghijklmnopqrstuv")
	h.create(t, "ca", 9, seed)
	h.create(t, "log", 1, seed)
	for range 3 {
		h.sign(t, "ca", nil, drawOf(0))
		h.sign(t, "log", nil, drawOf(0))
	}
	for key, want := range map[string]string{
		"key/ca":  "\x09" + string(seed) + "\x00\x00\x00\x03",
		"key/log": "\x01" + string(seed) + "\x00\x00\x00\x00",
	} {
		if b, ok := h.s.Get([]byte(key)); !ok || string(b) != want {
			t.Errorf("under %s stands %q", key, b)
		}
	}
	if got := h.s.Keys(nil); len(got) != 2 {
		t.Errorf("the store has %q", got)
	}
}

// P18.1: what others have in the store is theirs, and no key.
func TestOthersInTheStore(t *testing.T) {
	h := newHouse(t, 400)
	good := slowKey{scheme: 9, seed: seedOf(0)}.bytes()
	for _, key := range []string{"a", "key", "key/", "keya", "kez/a", "KEY/a", " key/b", "ca/life", "cert/0000000000000001", "key/A", "key/a1", "key/abcdefghi", "key/key/a", "key/\x00"} {
		h.commit(t, set(key, good))
	}
	h.holds(t)
	before := h.s.Keys(nil)
	for _, name := range []string{"", "A", "a1", "abcdefghi", "key/a", "\x00"} {
		h.refuseSign(t, name, drawOf(0), api.ErrNone)
		h.refuseCreate(t, name, 9, seedOf(1), api.ErrName)
	}
	h.create(t, "a", 8, seedOf(2))
	h.create(t, "key", 4, seedOf(3))
	h.sign(t, "a", nil, drawOf(0))
	h.reopen(t)
	h.holds(t)
	if after := h.s.Keys(nil); len(after) != len(before)+2 {
		t.Errorf("the store has %q", after)
	}
	for _, key := range before {
		if b, ok := h.s.Get(key); !ok || !slices.Equal(b, good) {
			t.Errorf("under %q stands %x", key, b)
		}
	}
}

// P1: values that no vault writes are of no key.
func TestNoKeysInBytes(t *testing.T) {
	h := newHouse(t, 400)
	good := slowKey{scheme: 9, seed: seedOf(0)}.bytes()
	values := [][]byte{nil, {9}, good[:33], good[:36], append(slices.Clone(good), 0), slices.Concat(good, good)}
	for _, kind := range []byte{0, 10, 44, 255} {
		values = append(values, append([]byte{kind}, good[1:]...))
	}
	h.create(t, "b", 4, seedOf(1))
	for _, value := range values {
		h.commit(t, set("key/a", value))
		h.holds(t)
		if kind, pk, e := h.v.Public("a"); kind != 0 || len(pk) != 0 || e != api.ErrNone {
			t.Errorf("of %x Public is %d, %x, %d", value, kind, pk, e)
		}
		if n, e := h.v.Left("a"); n != 0 || e != api.ErrNone {
			t.Errorf("of %x Left is %d, %d", value, n, e)
		}
		h.refuseSign(t, "a", drawOf(0), api.ErrNone)
		h.reopen(t)
		h.holds(t)
	}
	h.create(t, "a", 9, seedOf(0))
	h.sign(t, "a", nil, drawOf(0))
}

// P1, P18.4: a next number past the last one leaves no signature, be it as great as it may.
func TestNextPastTheLast(t *testing.T) {
	h := newHouse(t, 400)
	good := slowKey{scheme: 9, seed: seedOf(0)}.bytes()
	for _, next := range []string{"\x00\x00\x00\x08", "\x00\x00\x00\x09", "\x00\x00\x01\x00", "\x00\x01\x00\x00", "\x01\x00\x00\x00", "\x7f\xff\xff\xff", "\x80\x00\x00\x00", "\xff\xff\xff\xff"} {
		h.commit(t, set("key/a", append(slices.Clone(good[:33]), next...)))
		if n, e := h.v.Left("a"); n != 0 || e != api.OK {
			t.Errorf("of %x Left is %d, %d", next, n, e)
		}
		h.p.Arm(0)
		fails(t, h.v, "a", nil, drawOf(0), api.ErrUsed)
		h.p.Arm(-1)
	}
}

// P18.5: a key is what the store has of it, whatever was opened: a change that was told may be committed later, past the vault.
func TestKeysAreTheStores(t *testing.T) {
	h := newHouse(t, 400)
	var changes []store.Change
	keys := []slowKey{{scheme: 9, seed: seedOf(0), next: 1}, {scheme: 9, seed: seedOf(1)}, {scheme: 4, seed: seedOf(1)}, {scheme: 8, seed: seedOf(1), next: 5}, {scheme: 9, seed: seedOf(0), next: 7}}
	for _, k := range keys {
		c, e := h.v.Change("a", k.scheme, k.seed, k.next)
		expect(t, "Change", e, api.OK)
		changes = append(changes, c)
	}
	h.create(t, "b", 9, seedOf(5))
	for i, c := range changes {
		h.commit(t, c)
		h.keys["a"] = keys[i]
		h.holds(t)
		h.sign(t, "a", nil, drawOf(0))
		h.sign(t, "b", nil, drawOf(0))
	}
	h.refuseSign(t, "a", drawOf(0), api.ErrUsed)
	h.commit(t, gone("key/a"))
	delete(h.keys, "a")
	h.holds(t)
	h.refuseSign(t, "a", drawOf(0), api.ErrNone)
	h.create(t, "a", 8, seedOf(6))
	h.sign(t, "a", nil, drawOf(0))
}

// The rules: no more is kept than the signers of the keys that are there, and no name that was handed in.
func TestWhatIsKept(t *testing.T) {
	h := newHouse(t, 400)
	for i, name := range goodNames {
		h.create(t, name, 4, seedOf(i))
		h.refuseCreate(t, name, 9, seedOf(i), api.ErrTwice)
		h.refuseSign(t, strings.ToUpper(name), drawOf(0), api.ErrNone)
	}
	if _, e := h.v.Change("none", 4, seedOf(0), 0); e != api.OK || len(h.v.signers) != len(goodNames) {
		t.Error("signers:", len(h.v.signers))
	}
	for _, name := range goodNames[1:] {
		h.commit(t, gone("key/"+name))
		h.refuseNone(t, name)
	}
	if len(h.v.signers) != 1 {
		t.Error("signers:", len(h.v.signers))
	}
}

// refuseNone asks for a key that isn't there any more.
func (h *house) refuseNone(t *testing.T, name string) {
	t.Helper()
	delete(h.keys, name)
	h.refuseSign(t, name, drawOf(0), api.ErrNone)
}
