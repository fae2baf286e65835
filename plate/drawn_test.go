package plate

import (
	"fmt"
	"math/rand"
	"testing"
)

// act is something that happens to a plate.
type act struct {
	name string
	do   func(t *testing.T, b both)
}

func writing(at int, what byte) act {
	return act{fmt.Sprintf("write %d at %d", what, at), func(t *testing.T, b both) { b.write(t, at, made(what)) }}
}

func arming(n int) act {
	return act{fmt.Sprintf("arm %d", n), func(t *testing.T, b both) { b.arm(n) }}
}

func reviving(keep ...bool) act {
	return act{fmt.Sprintf("revive %v", keep), func(t *testing.T, b both) { b.revive(keep...) }}
}

var syncing = act{"sync", func(t *testing.T, b both) { b.sync(t) }}

// goOn does every act on a clone, and so on, so many deep; what a clone is done to must not be seen in what it was made of.
func goOn(t *testing.T, b both, acts []act, deep int, done []string) {
	if deep == 0 {
		return
	}
	for _, a := range acts {
		next := b.clone()
		names := append(done[:len(done):len(done)], a.name)
		hold(t, next.p, next.s, names[:len(done)])
		a.do(t, next)
		hold(t, next.p, next.s, names)
		goOn(t, next, acts, deep-1, names)
	}
	hold(t, b.p, b.s, done)
}

// P13.2, P13.3, P13.4, P13.5: all that may happen to a plate in four acts, by the chapter's words.
func TestAllOrders(t *testing.T) {
	goOn(t, newBoth(8), []act{
		writing(3, 1), writing(3, 0), writing(7, 2), writing(8, 1), syncing,
		arming(0), arming(1), arming(-1), reviving(), reviving(true), reviving(false, true),
	}, 4, nil)
}

// P13.2, P13.4: the same, deeper, of the acts whose order matters most.
func TestDeepOrders(t *testing.T) {
	b := newBoth(8)
	b.write(t, 0, make([]byte, 64))
	b.sync(t)
	goOn(t, b, []act{writing(0, 1), writing(0, 0), syncing, arming(2), reviving(true, false, true), reviving(false, true)}, 6, nil)
}

func drawnKeep(r *rand.Rand, loose int) []bool {
	keep := make([]bool, r.Intn(loose+3))
	for i := range keep {
		keep[i] = r.Intn(2) == 0
	}
	return keep
}

func drawnBytes(r *rand.Rand) []byte {
	switch r.Intn(12) {
	case 0:
		return make([]byte, r.Intn(130))
	case 1, 2, 3:
		return make([]byte, 64)
	}
	b := make([]byte, 64)
	r.Read(b[r.Intn(64):])
	return b
}

func drawnAct(t *testing.T, r *rand.Rand, b both) {
	switch r.Intn(16) {
	case 0, 1:
		b.sync(t)
	case 2:
		b.arm(r.Intn(12) - 2)
	case 3:
		b.revive(drawnKeep(r, b.p.Loose())...)
	default:
		b.write(t, r.Intn(b.p.Sectors()+2)-1, drawnBytes(r))
	}
	if b.p.Down() && r.Intn(3) == 0 {
		b.revive(drawnKeep(r, b.p.Loose())...)
	}
}

// P13.2, P13.3, P13.4, P13.5: long lives of plates and of their clones, drawn.
func TestDrawn(t *testing.T) {
	for seed := range int64(40) {
		r := rand.New(rand.NewSource(seed))
		all := []both{newBoth(8 + r.Intn(10)), newBoth(8), newBoth(9)}
		for step := range 600 {
			i := r.Intn(len(all))
			if r.Intn(10) == 0 {
				all[i] = all[r.Intn(len(all))].clone()
			}
			drawnAct(t, r, all[i])
			for _, b := range all {
				hold(t, b.p, b.s, []int64{seed, int64(step)})
			}
		}
	}
}
