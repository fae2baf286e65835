package wal

import (
	"math/rand"
	"testing"

	"chancery/api"
	"chancery/plate"
)

// life is a plate with one log on it, and the records that must be there.
type life struct {
	p    *plate.Plate
	l    *Log
	from int
	to   int
	gen  int
	done [][]byte
}

func (x *life) clone(t *testing.T) *life {
	t.Helper()
	y := *x
	y.p = x.p.Clone()
	y.done = x.done[:len(x.done):len(x.done)]
	y.reopen(t)
	return &y
}

func (x *life) reopen(t *testing.T) {
	t.Helper()
	x.l = open(t, x.p, x.from, x.to, x.gen)
	holds(t, x.l, x.done...)
}

// crash appends a record on a plate that is armed so, and revives it.
func (x *life) crash(t *testing.T, record []byte, after int, keep []bool) {
	t.Helper()
	x.p.Arm(after)
	e := x.l.Append(record)
	x.p.Revive(keep)
	x.l = open(t, x.p, x.from, x.to, x.gen)
	switch got := x.l.Records(); {
	case e == api.ErrFull && same(got, x.done):
	case e == api.OK && same(got, append(x.done, record)), e == api.ErrCrash && same(got, append(x.done, record)):
		x.done = append(x.done, record)
	case e == api.ErrCrash && same(got, x.done):
	default:
		t.Fatalf("Append of %x, armed with %d, kept %v, answered %d: then there is %x behind %x", record, after, keep, e, got, x.done)
	}
}

// everyCrash goes through all ways in which an Append of a record ends, and so on, so many deep.
func everyCrash(t *testing.T, x *life, lengths []int, deep int) {
	if deep == 0 {
		return
	}
	for _, n := range lengths {
		record := full(byte(len(x.done)*16+deep), n)
		parts := len(slowSectors(1, 1, 1, record))
		for after := range parts + 2 {
			for kept := range 1 << min(after, parts) {
				if after > parts && kept > 0 { // all are safe
					break
				}
				y := x.clone(t)
				y.crash(t, record, after, bits(kept, parts))
				everyCrash(t, y, lengths, deep-1)
			}
		}
	}
}

func bits(n, count int) []bool {
	keep := make([]bool, count)
	for i := range keep {
		keep[i] = n>>i&1 == 1
	}
	return keep
}

// P14.3: every crash in every one of three Appends of one to four sectors, whatever is kept.
func TestEveryCrash(t *testing.T) {
	x := &life{p: newPlate(t, 8), from: 1, to: 8, gen: 3}
	everyCrash(t, x, []int{20, 90, 130, 180}, 3)
}

// P14.3: the same, deeper, of records of one to three sectors, on sectors that a lower generation has used.
func TestEveryCrashDeeper(t *testing.T) {
	x := &life{p: newPlate(t, 8), from: 0, to: 6, gen: 3}
	lower := open(t, x.p, 0, 6, 2)
	for range 3 {
		add(t, lower, full(255, 60))
	}
	everyCrash(t, x, []int{44, 60, 140}, 4)
}

// P14.3: a record of which a part is left by one opening, the rest by another, isn't taken for one.
func TestMixedParts(t *testing.T) {
	for kept := range 8 {
		x := &life{p: newPlate(t, 8), from: 0, to: 8, gen: 1}
		x.reopen(t)
		x.crash(t, full(1, 140), 3, bits(kept, 3))
		if len(x.done) > 0 {
			continue
		}
		x.crash(t, full(2, 140), 3, bits(7-kept, 3))
		if kept != 0 && len(x.done) > 0 {
			t.Errorf("kept %03b of the first, the others of the second: a record is there", kept)
		}
	}
}

// P14.3: what a crash in an Append kept whole lasts through the next ones.
func TestKeptWholeLasts(t *testing.T) {
	x := &life{p: newPlate(t, 16), from: 0, to: 16, gen: 1}
	x.reopen(t)
	x.crash(t, full(1, 100), 3, bits(7, 3))
	if len(x.done) != 1 {
		t.Fatal("not there")
	}
	x.crash(t, full(2, 100), 3, bits(3, 3))
	x.crash(t, full(3, 10), 2, nil)
	x.crash(t, full(4, 100), 3, bits(7, 3))
	if len(x.done) != 3 {
		t.Error(len(x.done), "records")
	}
}

func drawnKeep(r *rand.Rand, n int) []bool {
	keep := make([]bool, n)
	odds := r.Intn(5)
	for i := range keep {
		keep[i] = r.Intn(4) < odds
	}
	return keep
}

// P14.3: drawn lives: many Appends between crashes, generations that follow one another, long records.
func TestDrawnLives(t *testing.T) {
	r := rand.New(rand.NewSource(14))
	for range 300 {
		sectors := 8 + r.Intn(60)
		x := &life{p: newPlate(t, sectors), from: r.Intn(4), to: sectors - r.Intn(4), gen: 1}
		x.reopen(t)
		longest := 1 + r.Intn(48*(x.to-x.from))
		for range 60 {
			record := make([]byte, r.Intn(longest))
			if r.Intn(3) > 0 {
				r.Read(record)
			}
			after := -1
			if r.Intn(2) == 0 {
				after = r.Intn(len(record)/48 + 3)
			}
			x.crash(t, record, after, drawnKeep(r, len(record)/48+2))
			holdsByWords(t, x.p, x.from, x.to, x.gen)
			if x.l.Room() < longest/4 && r.Intn(6) == 0 {
				x.gen += 1 + r.Intn(300)
				x.done = nil
				x.reopen(t)
			}
		}
	}
}

// P14.3: a crash between Appends, without arming, takes nothing away.
func TestCrashBetween(t *testing.T) {
	p := newPlate(t, 32)
	l := open(t, p, 0, 32, 1)
	var want [][]byte
	for i := range 10 {
		want = append(want, full(byte(i), 20*i))
		add(t, l, want[i])
		p.Revive(nil)
		holds(t, l, want...)
		holds(t, open(t, p.Clone(), 0, 32, 1), want...)
	}
}
