package plate

import (
	"testing"

	"chancery/api"
)

// bits are the n lowest ones of x.
func bits(x, n int) []bool {
	list := make([]bool, n)
	for i := range list {
		list[i] = x>>i&1 == 1
	}
	return list
}

// P13.4: all choices of what is kept, by as short and as long lists as one likes, of a plate that is down and of one that isn't.
func TestReviveAll(t *testing.T) {
	places := []int{2, 5, 2, 2, 5, 7}
	for _, crash := range []bool{false, true} {
		b := newBoth(8)
		b.write(t, 2, made(9))
		b.write(t, 7, made(8))
		b.sync(t)
		b.arm(len(places))
		for i, at := range places {
			b.write(t, at, made(byte(i%4))) // the first and the fifth are noughts
		}
		if crash {
			b.sync(t)
		}
		if b.p.Down() != crash {
			t.Fatal("Down is", b.p.Down())
		}
		for n := range len(places) + 3 {
			for x := range 1 << n {
				next := b.clone()
				next.revive(bits(x, n)...)
				hold(t, next.p, next.s, bits(x, n))
				next.revive() // what is there is safe
				hold(t, next.p, next.s, bits(x, n))
			}
		}
		hold(t, b.p, b.s, "what was cloned")
	}
}

// P13.4: places are counted from the last sync on.
func TestRevivePlaces(t *testing.T) {
	p := New(8)
	put(t, p, 0, 1)
	put(t, p, 1, 1)
	expect(t, "Sync", p.Sync(), api.OK)
	put(t, p, 0, 2)
	put(t, p, 1, 2)
	p.Revive([]bool{true})
	isAll(t, p, 0, 2)
	isAll(t, p, 1, 1)
	put(t, p, 0, 3)
	put(t, p, 1, 3)
	p.Revive([]bool{false, true, true})
	isAll(t, p, 0, 2)
	isAll(t, p, 1, 3)
}

// P13.4: behind it the plate isn't armed, whether it went down or not.
func TestReviveDisarms(t *testing.T) {
	for _, n := range []int{0, 1, 5} {
		p := New(8)
		p.Arm(n)
		p.Revive(nil)
		for range 20 {
			put(t, p, 4, 4)
		}
		p.Arm(0)
		expect(t, "Sync", p.Sync(), api.ErrCrash)
		p.Revive(nil)
		if p.Down() {
			t.Error("down when revived")
		}
		isAll(t, p, 4, 0)
		for range 20 {
			put(t, p, 4, 4)
		}
	}
}

// P13.2, P13.4: what was synced lasts, however often the power goes.
func TestSafe(t *testing.T) {
	p := New(16)
	for round := range 50 {
		put(t, p, round%16, byte(round+1))
		expect(t, "Sync", p.Sync(), api.OK)
		put(t, p, round%16, 0)
		put(t, p, (round+1)%16, 200)
		p.Arm(0)
		expect(t, "Write", p.Write(0, make([]byte, 64)), api.ErrCrash)
		p.Revive([]bool{false, false, true})
		for back := range min(round+1, 16) {
			isAll(t, p, (round-back)%16, byte(round-back+1))
		}
	}
}

// P13.1, P13.2, P13.4: the greatest plate, with many loose writes.
func TestGreatest(t *testing.T) {
	const n = 16384
	p := New(n)
	keep := make([]bool, 2*n)
	for i := range keep {
		put(t, p, i%n, byte(1+i%100))
		keep[i] = i%3 == 0
	}
	if p.Loose() != 2*n {
		t.Fatal("Loose is", p.Loose())
	}
	p.Revive(keep)
	for at := range n {
		want := byte(0)
		for _, i := range []int{at, at + n} {
			if keep[i] {
				want = byte(1 + i%100)
			}
		}
		isAll(t, p, at, want)
	}
}

// A plate keeps nothing for sectors that are noughts.
func TestRoom(t *testing.T) {
	p := New(16384)
	for _, b := range []byte{0, 1, 0} {
		for at := range 100 {
			put(t, p, at, b)
		}
		expect(t, "Sync", p.Sync(), api.OK)
		if want := 100 * int(b); len(p.there) != want || len(p.safe) != want || p.loose != nil {
			t.Errorf("all %d: it keeps %d, %d sectors and %d writes, want %d, %d and none", b, len(p.there), len(p.safe), len(p.loose), want, want)
		}
	}
}
