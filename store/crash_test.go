package store

import (
	"fmt"
	"maps"
	"math/rand"
	"strconv"
	"testing"

	"chancery/api"
	"chancery/plate"
)

// life is a plate with a store on it, and the pairs that must be there.
type life struct {
	p    *plate.Plate
	done map[string]string
}

func bits(n, count int) []bool {
	keep := make([]bool, count)
	for i := range keep {
		keep[i] = n>>i&1 == 1
	}
	return keep
}

// afterCrash opens what a crash left, and tells whether it is the pairs ahead or those behind; it must be one of them, and these behind OK.
func afterCrash(t *testing.T, p *plate.Plate, e api.Errno, ahead, behind map[string]string) life {
	t.Helper()
	got := allOf(t, open(t, p))
	if !maps.Equal(got, behind) && (e == api.OK || !maps.Equal(got, ahead)) {
		t.Fatalf("answered %d: then there is %q, ahead of it %q, behind it %q", e, got, ahead, behind)
	}
	return life{p: p, done: got}
}

// everyKeep are all lives behind a crash, by what is kept.
func everyKeep(t *testing.T, p *plate.Plate, e api.Errno, ahead, behind map[string]string) []life {
	t.Helper()
	var all []life
	loose := p.Loose()
	for kept := range 1 << loose {
		q := p.Clone()
		q.Revive(bits(kept, loose))
		all = append(all, afterCrash(t, q, e, ahead, behind))
	}
	return all
}

// everyCrash are all lives behind a Commit of changes that goes down at some write or sync, or at none.
func everyCrash(t *testing.T, x life, list []Change) []life {
	t.Helper()
	var all []life
	for after := 0; ; after++ {
		p := x.p.Clone()
		s := open(t, p)
		p.Arm(after)
		e := s.Commit(list)
		behind := slowAfter(x.done, list...)
		if e == api.ErrFull {
			behind = x.done
		}
		if e != api.ErrCrash {
			holds(t, s, behind)
			return append(all, everyKeep(t, p, api.OK, behind, behind)...)
		}
		holds(t, s, x.done)
		all = append(all, everyKeep(t, p, e, x.done, behind)...)
	}
}

// everyOpening are all lives behind an Open of a new plate that goes down at some write or sync, again and again, or at none.
func everyOpening(t *testing.T, p *plate.Plate, deep int) []life {
	t.Helper()
	var all []life
	for after := 0; ; after++ {
		q := p.Clone()
		q.Arm(after)
		_, e := Open(q)
		if e == api.OK {
			q.Revive(nil)
			return append(all, afterCrash(t, q, e, nil, nil))
		}
		expect(t, "Open", e, api.ErrCrash)
		loose := q.Loose()
		for kept := range 1 << loose {
			r := q.Clone()
			r.Revive(bits(kept, loose))
			if deep > 0 {
				all = append(all, everyOpening(t, r, deep-1)...)
			}
			all = append(all, afterCrash(t, r, e, nil, nil))
		}
	}
}

// unlike leaves one of those lives that are in all alike.
func unlike(list []life) []life {
	seen := map[string]bool{}
	var out []life
	for _, x := range list {
		key := content(x.p) + fmt.Sprint(x.done)
		if !seen[key] {
			seen[key] = true
			out = append(out, x)
		}
	}
	return out
}

// everyLife goes through all crashes in Commits that follow one another, so many, each of any of the lists.
func everyLife(t *testing.T, start []life, lists [][]Change, deep int) []life {
	t.Helper()
	all := unlike(start)
	for range deep {
		var next []life
		for _, x := range all {
			for _, list := range lists {
				next = append(next, everyCrash(t, x, list)...)
			}
		}
		all = unlike(next)
	}
	return all
}

// generations counts lives by theirs.
func generations(t *testing.T, list []life) map[int]int {
	t.Helper()
	count := map[int]int{}
	for _, x := range list {
		count[open(t, x.p).Generation()]++
	}
	return count
}

// P15.3: every crash while a new plate is opened, in recoveries too, and in five Commits behind it, whatever is kept.
func TestEveryCrash(t *testing.T) {
	start := everyOpening(t, newPlate(t, 8), 2)
	all := everyLife(t, start, [][]Change{
		{set("a", "1"), gone("b")},
		{set("b", many('b', 50))},
		{set("a", many('a', 40)), set("b", "2")},
	}, 5)
	if count := generations(t, all); count[1] == 0 || count[2] == 0 || count[3] == 0 {
		t.Error("lives by their generations:", count)
	}
}

// P15.3: the same through more generations, of first records of several sectors.
func TestEveryCrashDeeper(t *testing.T) {
	p := newPlate(t, 9)
	open(t, p)
	all := everyLife(t, []life{{p: p, done: map[string]string{}}}, [][]Change{
		{set("a", many('a', 90))},
		{gone("a")},
	}, 6)
	if count := generations(t, all); count[4] == 0 || count[5] == 0 {
		t.Error("lives by their generations:", count)
	}
}

// P15.3: a crash between Commits, without arming, takes nothing away.
func TestCrashBetween(t *testing.T) {
	p := newPlate(t, 9)
	s := open(t, p)
	p.Revive(nil)
	want := map[string]string{}
	for i := range 30 {
		k := strconv.Itoa(i % 3)
		want[k] = strconv.Itoa(i)
		commit(t, s, set(k, want[k]))
		p.Revive(nil)
		holds(t, s, want)
		holds(t, open(t, p.Clone()), want)
	}
}

func drawnChanges(r *rand.Rand, longest int) []Change {
	var list []Change
	for range r.Intn(4) {
		key := strconv.Itoa(r.Intn(12))
		if r.Intn(3) == 0 {
			list = append(list, gone(key))
			continue
		}
		value := make([]byte, r.Intn(longest))
		r.Read(value)
		list = append(list, set(key, string(value)))
	}
	return list
}

func drawnKeep(r *rand.Rand, n int) []bool {
	keep := make([]bool, n)
	odds := r.Intn(5)
	for i := range keep {
		keep[i] = r.Intn(4) < odds
	}
	return keep
}

// P15.3: drawn lives with many Commits between crashes, through many generations.
func TestDrawnLives(t *testing.T) {
	r := rand.New(rand.NewSource(15))
	crashes, full, greatest := 0, 0, 0
	for range 300 {
		sectors := 8 + r.Intn(80)
		x := life{p: newPlate(t, sectors), done: map[string]string{}}
		s := open(t, x.p)
		longest := 1 + r.Intn(5*sectors)
		for range 100 {
			if r.Intn(3) == 0 {
				x.p.Arm(r.Intn(12))
			}
			list := drawnChanges(r, longest)
			e := s.Commit(list)
			behind := slowAfter(x.done, list...)
			switch e {
			case api.OK:
				x.done = behind
				holds(t, s, x.done)
				continue
			case api.ErrFull:
				full++
				holds(t, s, x.done)
				continue
			}
			expect(t, "Commit", e, api.ErrCrash)
			crashes++
			x.p.Revive(drawnKeep(r, x.p.Loose()))
			x = afterCrash(t, x.p, e, x.done, behind)
			s = open(t, x.p)
			greatest = max(greatest, s.Generation())
		}
	}
	if crashes < 1000 || full < 100 || greatest < 20 {
		t.Error(crashes, "crashes,", full, "times full, the greatest generation", greatest)
	}
}

// P15.2: drawn Commits without crashes, byte by byte.
func TestDrawnBytes(t *testing.T) {
	r := rand.New(rand.NewSource(151))
	for range 200 {
		sectors := 8 + r.Intn(60)
		p := newPlate(t, sectors)
		s, m := open(t, p), newSlow(sectors)
		longest := 1 + r.Intn(5*sectors)
		for range 40 {
			list := drawnChanges(r, longest)
			expect(t, "Commit", s.Commit(list), m.commit(list...))
			stands(t, p, s, m)
			if r.Intn(5) == 0 {
				s = open(t, p)
				m.reopen()
			}
		}
	}
}
