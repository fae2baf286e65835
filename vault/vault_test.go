package vault

import (
	"math"
	"slices"
	"strconv"
	"strings"
	"testing"

	"chancery/api"
	"chancery/plate"
	"chancery/scheme"
	"chancery/store"
)

// The chapter's example.
func TestExample(t *testing.T) {
	h := newHouse(t, 400)
	h.create(t, "ca", 9, seedOf(0))
	for range 8 {
		h.sign(t, "ca", []byte("m"), drawOf(0))
	}
	for range 3 {
		h.refuseSign(t, "ca", drawOf(0), api.ErrUsed)
		h.reopen(t)
	}
}

// P18.1, P18.2: keys of each scheme, under names of each length; they last.
func TestCreate(t *testing.T) {
	h := newHouse(t, 400)
	h.holds(t)
	for i, name := range goodNames {
		h.create(t, name, i+1, seedOf(i))
	}
	h.reopen(t)
	h.holds(t)
	for i := range 8 {
		name := strings.Repeat(string(rune('b'+i)), i+1)
		h.create(t, name, 9-i, seedOf(i))
	}
	h.holds(t)
	h.reopen(t)
	h.holds(t)
}

// P18.1: each letter is one.
func TestLetters(t *testing.T) {
	h := newHouse(t, 2000)
	for b := range 256 {
		name := string([]byte{byte(b)})
		if b >= 'a' && b <= 'z' {
			h.create(t, name, 4, seedOf(b))
			h.create(t, "ab"+name, 4, seedOf(b))
		} else {
			expect(t, strconv.Quote(name), h.v.Create(name, 4, seedOf(b)), api.ErrName)
			expect(t, strconv.Quote(name), h.v.Create("ab"+name, 4, seedOf(b)), api.ErrName)
			expect(t, strconv.Quote(name), h.v.Create(name+"ab", 4, seedOf(b)), api.ErrName)
		}
	}
	h.reopen(t)
	h.holds(t)
}

// P18.1, P18.5: names that are none, whatever else is wrong.
func TestWrongNames(t *testing.T) {
	h := newHouse(t, 400)
	h.create(t, "a", 9, seedOf(0))
	long := []string{strings.Repeat("a", 256+1), strings.Repeat("a", 256+8), strings.Repeat("a", 1<<16+1)}
	for _, name := range append(long, wrongNames...) {
		h.refuseCreate(t, name, 9, seedOf(1), api.ErrName)
		expect(t, "all is wrong", h.v.Create(name, 10, nil), api.ErrName)
	}
}

// P18.1, P18.5: a key is made once, whatever else is wrong.
func TestTwice(t *testing.T) {
	h := newHouse(t, 400)
	for i, name := range []string{"ca", "log", "abcdefgh"} {
		h.create(t, name, 7+i, seedOf(i))
		h.sign(t, name, nil, drawOf(i))
	}
	for range 2 {
		for name := range h.keys {
			for kind := 1; kind < 10; kind++ {
				h.refuseCreate(t, name, kind, seedOf(5), api.ErrTwice)
			}
			h.refuseCreate(t, name, h.keys[name].scheme, h.keys[name].seed, api.ErrTwice)
			h.refuseCreate(t, name, 10, seedOf(5), api.ErrTwice)
			h.refuseCreate(t, name, 9, nil, api.ErrTwice)
		}
		h.reopen(t)
	}
	h.create(t, "cab", 9, seedOf(0))
	h.create(t, "c", 9, seedOf(0))
}

// P18.1, P18.5: layer 8's errors: no scheme, whatever the seed, then a seed that hasn't 32 bytes.
func TestNoKey(t *testing.T) {
	h := newHouse(t, 400)
	h.create(t, "a", 9, seedOf(0))
	for _, kind := range noSchemes {
		h.refuseCreate(t, "b", kind, seedOf(1), api.ErrSet)
		h.refuseCreate(t, "b", kind, nil, api.ErrSet)
	}
	for kind := 1; kind < 10; kind++ {
		for _, n := range []int{0, 1, 16, 24, 31, 33, 48, 64, 256 + 32, 1<<16 + 32} {
			h.refuseCreate(t, "b", kind, drawn(1, n), api.ErrKey)
		}
	}
}

// P18.1: the store's errors: a plate too small, one that goes down, and a store that is closed; no key is there then.
func TestCreateStoreErrors(t *testing.T) {
	h := newHouse(t, 8)
	h.create(t, "a", 9, seedOf(0))
	h.create(t, "b", 4, seedOf(1))
	h.still(t, "no room", func() { expect(t, "no room", h.v.Create("c", 9, seedOf(2)), api.ErrFull) })
	for range 20 {
		h.sign(t, "b", nil, drawOf(1))
	}
	for range 8 {
		h.sign(t, "a", nil, drawOf(1))
	}
	h = newHouse(t, 40)
	h.create(t, "a", 9, seedOf(0))
	h.p.Arm(0)
	expect(t, "a crash", h.v.Create("b", 4, seedOf(1)), api.ErrCrash)
	h.holds(t)
	for _, kind := range []int{4, 9} {
		expect(t, "a closed store", h.v.Create("b", kind, seedOf(1)), api.ErrClosed)
	}
	h.p.Revive(nil)
	expect(t, "a closed store", h.v.Create("b", 4, seedOf(1)), api.ErrClosed)
	expect(t, "a closed store, a wrong name", h.v.Create("B", 4, seedOf(1)), api.ErrName)
	expect(t, "a closed store, the key is there", h.v.Create("a", 4, seedOf(1)), api.ErrTwice)
	expect(t, "a closed store, no scheme", h.v.Create("b", 0, seedOf(1)), api.ErrSet)
	expect(t, "a closed store, no seed", h.v.Create("b", 4, nil), api.ErrKey)
	h.holds(t)
	h.reopen(t)
	h.holds(t)
	h.create(t, "b", 4, seedOf(1))
}

// P18.1: names rise, letter by letter, in whatever order their keys were made.
func TestNames(t *testing.T) {
	h := newHouse(t, 400)
	for i, name := range []string{"b", "ba", "aa", "a", "c", "aaa", "zz", "z", "ab"} {
		h.create(t, name, 4, seedOf(i))
	}
	want := []string{"a", "aa", "aaa", "ab", "b", "ba", "c", "z", "zz"}
	if got := h.v.Names(); !slices.Equal(got, want) {
		t.Errorf("%q", got)
	}
}

// P18.2, P18.3: of a name that no key has there is nothing, whatever else is wrong.
func TestNone(t *testing.T) {
	h := newHouse(t, 400)
	for round := range 3 {
		for _, name := range append([]string{"b", "aa", "c", "abcdefg", "key"}, wrongNames...) {
			h.still(t, name, func() {
				if kind, pk, e := h.v.Public(name); kind != 0 || len(pk) != 0 || e != api.ErrNone {
					t.Fatalf("Public(%q) is %d, %x, %d", name, kind, pk, e)
				}
				if n, e := h.v.Left(name); n != 0 || e != api.ErrNone {
					t.Fatalf("Left(%q) is %d, %d", name, n, e)
				}
			})
			h.refuseSign(t, name, drawOf(0), api.ErrNone)
			h.refuseSign(t, name, nil, api.ErrNone)
		}
		if round == 0 {
			h.create(t, "a", 9, seedOf(0))
			h.create(t, "abcdefgh", 4, seedOf(0))
		}
		h.reopen(t)
	}
}

// P18.2: keys are the store's, not a vault's: two stores have keys of their own under one name.
func TestVaultsApart(t *testing.T) {
	one, two := newHouse(t, 100), newHouse(t, 100)
	one.create(t, "a", 9, seedOf(0))
	two.create(t, "a", 8, seedOf(1))
	one.create(t, "b", 4, seedOf(2))
	one.sign(t, "a", nil, drawOf(0))
	two.sign(t, "a", nil, drawOf(0))
	two.sign(t, "a", nil, drawOf(0))
	one.holds(t)
	two.holds(t)
}

// P18.5: changes with each number that there may be used up; they are told, and not committed.
func TestChange(t *testing.T) {
	for kind := 1; kind < 10; kind++ {
		h := newHouse(t, 400)
		h.create(t, "a", 9, seedOf(0))
		count := counts[kind]
		for used := range count + 1 {
			var c store.Change
			h.still(t, "Change", func() {
				var e api.Errno
				c, e = h.v.Change("b", kind, seedOf(1), used)
				expect(t, "Change", e, api.OK)
			})
			want := slowKey{scheme: kind, seed: seedOf(1), next: used}
			if string(c.Key) != "key/b" || string(c.Value) != string(want.bytes()) || c.Gone {
				t.Fatalf("Change is %v", c)
			}
			one := newHouse(t, 400)
			expect(t, "Commit", one.s.Commit([]store.Change{c}), api.OK)
			one.keys["b"] = want
			one.holds(t)
			for range min(want.left(), 3) {
				one.sign(t, "b", []byte("m"), drawOf(used))
			}
			one.reopen(t)
			one.holds(t)
			if want.left() == 0 {
				one.refuseSign(t, "b", drawOf(0), api.ErrUsed)
			}
		}
	}
}

// P18.5: more used up than there are, or fewer than none.
func TestChangeUsed(t *testing.T) {
	h := newHouse(t, 400)
	h.create(t, "a", 9, seedOf(0))
	for kind := 1; kind < 10; kind++ {
		count := counts[kind]
		for _, used := range []int{-1, -2, -count - 1, count + 1, count + 2, 17, 99, 256, 256 + count, 1 << 31, 1 << 32, 1<<32 + count, math.MaxInt, math.MinInt, math.MinInt + count} {
			h.refuseChange(t, "b", kind, seedOf(1), used, api.ErrUsed)
		}
		h.refuseChange(t, "b", kind, seedOf(1)[1:], -1, api.ErrKey)
	}
}

// P18.5: a change is committed together with others, as one.
func TestChangeWithOthers(t *testing.T) {
	h := newHouse(t, 400)
	c, e := h.v.Change("ca", 9, seedOf(0), 1)
	expect(t, "Change", e, api.OK)
	d, e := h.v.Change("log", 4, seedOf(1), 0)
	expect(t, "Change", e, api.OK)
	h.holds(t)
	other := store.Change{Key: []byte("ca/life"), Value: []byte("life")}
	expect(t, "Commit", h.s.Commit([]store.Change{c, other, d}), api.OK)
	h.keys["ca"] = slowKey{scheme: 9, seed: seedOf(0), next: 1}
	h.keys["log"] = slowKey{scheme: 4, seed: seedOf(1)}
	h.holds(t)
	if life, ok := h.s.Get([]byte("ca/life")); !ok || string(life) != "life" {
		t.Error(life, ok)
	}
	h.refuseCreate(t, "ca", 9, seedOf(0), api.ErrTwice)
	if sig := h.sign(t, "ca", nil, drawOf(0)); numberOf(t, 9, sig) != 1 {
		t.Error(numberOf(t, 9, sig))
	}
}

// P18.2: a signature of each scheme is right by the public key that is told.
func TestPublicVerifies(t *testing.T) {
	h := newHouse(t, 400)
	for i, name := range goodNames {
		h.create(t, name, i+1, seedOf(i))
		sig := h.sign(t, name, []byte("message"), drawOf(i))
		kind, pk, _ := h.v.Public(name)
		if !scheme.Verify(kind, pk, []byte("message"), sig) || scheme.Verify(kind, pk, []byte("massage"), sig) {
			t.Errorf("scheme %d: the signature isn't right", i+1)
		}
	}
}

// P18.1: the plate's size makes no difference to the keys.
func TestPlates(t *testing.T) {
	for _, sectors := range []int{8, 9, 10, 11, 12, 13, 50, api.MaxSectors} {
		h := newHouse(t, sectors)
		h.create(t, "a", 9, seedOf(0))
		for i := range 8 {
			h.sign(t, "a", []byte("m"), drawOf(i))
			if i%3 == 0 {
				h.reopen(t)
			}
		}
		h.refuseSign(t, "a", drawOf(0), api.ErrUsed)
	}
	if plate.New(7) != nil {
		t.Error("a smaller plate")
	}
}
