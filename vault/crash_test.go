package vault

import (
	"math/rand"
	"strconv"
	"testing"

	"chancery/api"
	"chancery/plate"
	"chancery/scheme"
	"chancery/store"
)

// life is a plate on which the key "a" signs, and what was told and lost.
type life struct {
	p    *plate.Plate
	next int
	told uint // a bit for each number
}

func bits(n, count int) []bool {
	keep := make([]bool, count)
	for i := range keep {
		keep[i] = n>>i&1 == 1
	}
	return keep
}

func openPlate(t *testing.T, p *plate.Plate) (*store.Store, *Vault) {
	t.Helper()
	s, e := store.Open(p)
	expect(t, "opening the store", e, api.OK)
	return s, Open(s)
}

// nextOf is the next number that a key has on a plate.
func nextOf(t *testing.T, p *plate.Plate, kind int) int {
	t.Helper()
	_, v := openPlate(t, p)
	n, e := v.Left("a")
	expect(t, "Left", e, api.OK)
	return counts[kind] - n
}

// everyKeep are all lives behind a crash, by what is kept; the next number is one of these two.
func everyKeep(t *testing.T, p *plate.Plate, kind int, told uint, least, most int) []life {
	t.Helper()
	var all []life
	loose := p.Loose()
	for kept := range 1 << loose {
		q := p.Clone()
		q.Revive(bits(kept, loose))
		next := nextOf(t, q, kind)
		if next < least || next > most {
			t.Fatalf("the next number is %d, want %d to %d", next, least, most)
		}
		all = append(all, life{p: q, next: next, told: told})
	}
	return all
}

// everyCrash are all lives behind a Sign that goes down at some write or sync, or at none.
func everyCrash(t *testing.T, x life, kind int) []life {
	t.Helper()
	var all []life
	k := slowKey{scheme: kind, seed: seedOf(kind)}
	for after := 0; ; after++ {
		p := x.p.Clone()
		_, v := openPlate(t, p)
		p.Arm(after)
		sig, e := v.Sign("a", []byte(strconv.Itoa(after)), drawOf(0))
		if e == api.ErrCrash && len(sig) == 0 {
			fails(t, v, "a", nil, drawOf(0), api.ErrClosed)
			all = append(all, everyKeep(t, p, kind, x.told, x.next, x.next+1)...)
			continue
		}
		expect(t, "Sign", e, api.OK)
		n := numberOf(t, kind, sig)
		if n != x.next || x.told>>n&1 == 1 {
			t.Fatalf("told the number %d, the next is %d, told were %b", n, x.next, x.told)
		}
		if !scheme.Verify(kind, k.signer(t).Public(), []byte(strconv.Itoa(after)), sig) {
			t.Fatal("the signature isn't right")
		}
		return append(all, everyKeep(t, p, kind, x.told|1<<n, n+1, n+1)...)
	}
}

// unlike leaves one of those lives that are in all alike.
func unlike(list []life) []life {
	seen := map[string]bool{}
	var out []life
	for _, x := range list {
		key := sectorsOf(x.p) + strconv.Itoa(int(x.told))
		if !seen[key] {
			seen[key] = true
			out = append(out, x)
		}
	}
	return out
}

// everyLife goes through all crashes of a key's last signatures, on a plate with so many sectors, and tells how many lives there are at the end.
func everyLife(t *testing.T, sectors, kind, last, signs int) int {
	t.Helper()
	h := newHouse(t, sectors)
	used := counts[kind] - last
	c, e := h.v.Change("a", kind, seedOf(kind), used)
	expect(t, "Change", e, api.OK)
	expect(t, "Commit", h.s.Commit([]store.Change{c}), api.OK)
	all := []life{{p: h.p, next: used}}
	for range signs {
		var next []life
		for _, x := range all {
			if x.next == counts[kind] {
				_, v := openPlate(t, x.p)
				x.p.Arm(0)
				fails(t, v, "a", nil, drawOf(0), api.ErrUsed)
				x.p.Revive(nil)
				continue
			}
			next = append(next, everyCrash(t, x, kind)...)
		}
		all = unlike(next)
	}
	return len(all)
}

// P18.4: every crash in the last signatures of a key, whatever is kept, on plates where each one begins a generation, and on others.
func TestEveryCrash(t *testing.T) {
	for sectors := 8; sectors < 14; sectors += 2 {
		for kind := range counts {
			t.Run(strconv.Itoa(sectors)+"/"+strconv.Itoa(kind), func(t *testing.T) {
				t.Parallel()
				if n := everyLife(t, sectors, kind, 2, 3); n < 2 {
					t.Error("lives:", n)
				}
			})
		}
	}
}

// P18.1, P18.4: every crash while a key is made: it is there as a whole, or not at all, and then it can be made.
func TestEveryCrashOfCreate(t *testing.T) {
	for after := 0; ; after++ {
		h := newHouse(t, 8)
		h.create(t, "b", 4, seedOf(4))
		h.p.Arm(after)
		e := h.v.Create("a", 9, seedOf(9))
		loose := h.p.Loose()
		for kept := range 1 << loose {
			q := &house{p: h.p.Clone(), keys: map[string]slowKey{"b": h.keys["b"]}}
			q.p.Revive(bits(kept, loose))
			q.reopen(t)
			if _, _, there := q.v.Public("a"); there == api.OK {
				q.keys["a"] = slowKey{scheme: 9, seed: seedOf(9)}
				q.holds(t)
			} else if e == api.OK {
				t.Fatal("a key that was made isn't there")
			} else {
				q.holds(t)
				q.create(t, "a", 9, seedOf(9))
			}
			q.sign(t, "a", nil, drawOf(0))
		}
		if e == api.OK {
			return
		}
		expect(t, "Create", e, api.ErrCrash)
	}
}

func drawnKeep(r *rand.Rand, n int) []bool {
	keep := make([]bool, n)
	odds := r.Intn(5)
	for i := range keep {
		keep[i] = r.Intn(4) < odds
	}
	return keep
}

// drawnLife lives with some keys through crashes; it counts them.
type drawnLife struct {
	*house
	r       *rand.Rand
	told    map[string]uint
	crashes int
}

// power goes, and the numbers that were being used up are as the plate says.
func (d *drawnLife) power(t *testing.T, signing string) {
	t.Helper()
	d.p.Revive(drawnKeep(d.r, d.p.Loose()))
	d.reopen(t)
	d.crashes++
	if k, ok := d.keys[signing]; ok {
		left, e := d.v.Left(signing)
		expect(t, "Left", e, api.OK)
		if left == k.left()-1 {
			k.next++
			d.keys[signing] = k
		}
	}
	d.holds(t)
}

func (d *drawnLife) signSome(t *testing.T, name string) {
	t.Helper()
	k := d.keys[name]
	msg := drawn(d.r.Int63(), d.r.Intn(50))
	sig, e := d.v.Sign(name, msg, drawOf(1))
	switch {
	case e == api.ErrCrash:
		if len(sig) != 0 {
			t.Fatal("a signature beside an error")
		}
		d.power(t, name)
	case k.left() == 0:
		expect(t, "Sign", e, api.ErrUsed)
	default:
		expect(t, "Sign", e, api.OK)
		if !scheme.Verify(k.scheme, k.signer(t).Public(), msg, sig) {
			t.Fatal("the signature isn't right")
		}
		if k.scheme < 8 {
			return
		}
		n := numberOf(t, k.scheme, sig)
		if n != k.next || d.told[name]>>n&1 == 1 {
			t.Fatalf("%s told %d, the next is %d, told were %b", name, n, k.next, d.told[name])
		}
		d.told[name] |= 1 << n
		k.next++
		d.keys[name] = k
	}
}

// P18.3, P18.4: drawn lives of several keys in one store, with many signatures between crashes, and other commits.
func TestDrawnLives(t *testing.T) {
	crashes := 0
	for seed := range int64(24) {
		r := rand.New(rand.NewSource(seed))
		d := &drawnLife{house: newHouse(t, 12+r.Intn(30)), r: r, told: map[string]uint{}}
		for i, name := range []string{"a", "b", "c", "d"} {
			d.create(t, name, []int{9, 8, 4, 9}[i], seedOf(i))
		}
		for range 60 {
			if r.Intn(4) == 0 {
				d.p.Arm(r.Intn(12))
			}
			switch r.Intn(12) {
			case 0:
				d.power(t, "")
			case 1:
				if d.s.Commit([]store.Change{{Key: []byte("other"), Value: drawn(1, r.Intn(40))}}) == api.ErrCrash {
					d.power(t, "")
				}
			default:
				d.signSome(t, []string{"a", "b", "c", "d"}[r.Intn(4)])
			}
			d.holds(t)
		}
		crashes += d.crashes
	}
	if crashes < 200 {
		t.Error(crashes, "crashes")
	}
}
