package plate

import (
	"math"
	"testing"

	"chancery/api"
)

func expect(t *testing.T, what string, got, want api.Errno) {
	t.Helper()
	if got != want {
		t.Fatalf("%s: %d, want %d", what, got, want)
	}
}

// put writes a sector full of one byte, which must be done.
func put(t *testing.T, p *Plate, at int, b byte) {
	t.Helper()
	expect(t, "Write", p.Write(at, made(b)), api.OK)
}

// isAll asks for a sector that must be full of one byte.
func isAll(t *testing.T, p *Plate, at int, b byte) {
	t.Helper()
	got, e := p.Read(at)
	if e != api.OK || len(got) != 64 || full(got) != ofAll(b) {
		t.Fatalf("Read(%d) is %x, %d, want 64 bytes %d", at, got, e, b)
	}
}

// P13.1: how many sectors a plate may have, and what it has at first.
func TestNew(t *testing.T) {
	for _, n := range []int{math.MinInt, -8, -1, 0, 1, 7, 16385, 1 << 32, math.MaxInt} {
		if New(n) != nil {
			t.Errorf("New(%d) is a plate", n)
		}
	}
	for _, n := range []int{8, 9, 63, 64, 1000, 16383, 16384} {
		p := New(n)
		if p == nil || p.Sectors() != n || p.Down() || p.Loose() != 0 {
			t.Fatalf("New(%d) is no new plate of so many", n)
		}
		for at := range n {
			isAll(t, p, at, 0)
		}
		for range 100 {
			put(t, p, n-1, 1)
			expect(t, "Sync of one that isn't armed", p.Sync(), api.OK)
		}
	}
}

// P13.2, P13.4: the chapter's example.
func TestExample(t *testing.T) {
	p := New(8)
	put(t, p, 3, 1)
	put(t, p, 3, 2)
	p.Arm(0)
	expect(t, "Sync", p.Sync(), api.ErrCrash)
	other := p.Clone()
	p.Revive([]bool{true})
	isAll(t, p, 3, 1)
	other.Revive([]bool{false, true})
	isAll(t, other, 3, 2)
}

// P13.2: which sectors and which bytes are refused; nothing comes of it, not even to an armed plate.
func TestErrSector(t *testing.T) {
	p := New(8)
	put(t, p, 0, 5)
	p.Arm(2)
	for _, at := range []int{math.MinInt, -9, -8, -1, 8, 9, 64, 16384, 1 << 32, math.MaxInt} {
		expect(t, "Write", p.Write(at, make([]byte, 64)), api.ErrSector)
		if b, e := p.Read(at); e != api.ErrSector || len(b) != 0 {
			t.Errorf("Read(%d) is %x, %d", at, b, e)
		}
	}
	for _, b := range [][]byte{nil, {}, {1}, make([]byte, 63), make([]byte, 65), make([]byte, 128), make([]byte, 63, 64)} {
		expect(t, "Write of other lengths", p.Write(0, b), api.ErrSector)
		expect(t, "Write of other lengths elsewhere", p.Write(8, b), api.ErrSector)
	}
	if p.Loose() != 1 || p.Down() {
		t.Errorf("Loose %d, Down %v", p.Loose(), p.Down())
	}
	isAll(t, p, 0, 5)
	put(t, p, 7, 6)
	expect(t, "Sync", p.Sync(), api.OK)
	expect(t, "a Write elsewhere ahead of the crash", p.Write(8, make([]byte, 64)), api.ErrSector)
	if p.Down() {
		t.Error("down by a write that was refused")
	}
	expect(t, "the next", p.Write(7, make([]byte, 64)), api.ErrCrash)
}

// P13.2: a plate that is down answers ErrCrash ahead of ErrSector, whatever it is armed with then.
func TestErrCrash(t *testing.T) {
	p := New(8)
	put(t, p, 1, 1)
	p.Arm(0)
	expect(t, "Write", p.Write(1, make([]byte, 64)), api.ErrCrash)
	for _, n := range []int{-1, 0, 1, 100, math.MinInt, math.MaxInt} {
		p.Arm(n)
		for _, at := range []int{math.MinInt, -1, 0, 1, 7, 8, math.MaxInt} {
			expect(t, "Write", p.Write(at, make([]byte, 64)), api.ErrCrash)
			expect(t, "Write of nothing", p.Write(at, nil), api.ErrCrash)
			if b, e := p.Read(at); e != api.ErrCrash || len(b) != 0 {
				t.Errorf("Read(%d) is %x, %d", at, b, e)
			}
		}
		expect(t, "Sync", p.Sync(), api.ErrCrash)
		if !p.Down() || p.Loose() != 1 || p.Sectors() != 8 {
			t.Errorf("Down %v, Loose %d, Sectors %d", p.Down(), p.Loose(), p.Sectors())
		}
	}
	p.Revive([]bool{true})
	isAll(t, p, 1, 1)
	for range 200 {
		put(t, p, 1, 2)
		expect(t, "Sync when revived", p.Sync(), api.OK)
	}
}

// P13.2, P13.3: an armed plate does just so many writes and syncs, in whatever order; reads aren't any.
func TestArm(t *testing.T) {
	for n := range 8 {
		for syncs := range 1 << (n + 1) { // which of the n + 1 steps are syncs
			p := New(8)
			p.Arm(n)
			loose := 0
			for i := range n {
				isAll(t, p, 7, 0)
				if syncs>>i&1 == 1 {
					expect(t, "Sync", p.Sync(), api.OK)
					loose = 0
				} else {
					put(t, p, i%3, byte(i+1))
					loose++
				}
				if p.Down() || p.Loose() != loose {
					t.Fatalf("step %d: Down %v, Loose %d, want %d", i, p.Down(), p.Loose(), loose)
				}
			}
			if syncs>>n&1 == 1 {
				expect(t, "the last Sync", p.Sync(), api.ErrCrash)
			} else {
				expect(t, "the last Write", p.Write(0, make([]byte, 64)), api.ErrCrash)
			}
			if !p.Down() || p.Loose() != loose {
				t.Fatalf("armed with %d: Down %v, Loose %d, want %d", n, p.Down(), p.Loose(), loose)
			}
		}
	}
}

// P13.3: what it was armed with last counts; below 0 it isn't armed.
func TestArmAgain(t *testing.T) {
	p := New(8)
	p.Arm(0)
	p.Arm(2)
	put(t, p, 0, 1)
	p.Arm(1)
	put(t, p, 0, 2)
	for _, n := range []int{-1, -2, -1000, math.MinInt, math.MaxInt} {
		p.Arm(0)
		p.Arm(n)
		for range 50 {
			put(t, p, 0, 3)
			expect(t, "Sync", p.Sync(), api.OK)
		}
	}
	p.Arm(0)
	expect(t, "Sync without a loose write", p.Sync(), api.ErrCrash)
}

// P13.3: each write that is done is loose till the next sync, two of one sector too.
func TestLoose(t *testing.T) {
	p := New(8)
	for i := range 300 {
		put(t, p, i%2, byte(i/150))
		if p.Loose() != i+1 {
			t.Fatalf("Loose is %d behind %d writes", p.Loose(), i+1)
		}
	}
	expect(t, "Sync", p.Sync(), api.OK)
	if p.Loose() != 0 {
		t.Errorf("Loose is %d behind a sync", p.Loose())
	}
	expect(t, "Sync", p.Sync(), api.OK)
	put(t, p, 0, 1)
	if p.Loose() != 1 {
		t.Errorf("Loose is %d, want 1", p.Loose())
	}
	p.Revive(nil)
	if p.Loose() != 0 {
		t.Errorf("Loose is %d when revived", p.Loose())
	}
}
