package plate

import (
	"bytes"
	"slices"
	"testing"

	"chancery/api"
)

// spoil writes over a list and its spare room.
func spoil(b []byte) {
	for i := range b[:cap(b)] {
		b[:cap(b)][i] ^= 0xa5
	}
}

// P13.2: what is written is neither changed nor kept, nor what stands beside it.
func TestWriteKeepsNothing(t *testing.T) {
	p := New(8)
	around := bytes.Repeat([]byte{7}, 200)
	before := slices.Clone(around)
	b := around[50:114]
	expect(t, "Write", p.Write(2, b), api.OK)
	expect(t, "Write of the wrong length", p.Write(2, around[50:113]), api.ErrSector)
	expect(t, "Sync", p.Sync(), api.OK)
	expect(t, "Write", p.Write(3, b), api.OK)
	if !bytes.Equal(around, before) {
		t.Fatal("what was handed in was changed")
	}
	spoil(around)
	isAll(t, p, 2, 7)
	isAll(t, p, 3, 7)
	p.Revive([]bool{true})
	isAll(t, p, 3, 7)
}

// P13.2: what is read is new memory each time, its spare room too.
func TestReadIsNew(t *testing.T) {
	p := New(8)
	for at := range 4 {
		put(t, p, at, byte(at+1))
	}
	expect(t, "Sync", p.Sync(), api.OK)
	put(t, p, 4, 5)
	put(t, p, 3, 4)
	for at, want := range []byte{1, 2, 3, 4, 5, 0, 0, 0} {
		one, _ := p.Read(at)
		two, _ := p.Read(at)
		other, _ := p.Read((at + 1) % 8)
		was, wasOther := slices.Clone(two), slices.Clone(other)
		spoil(one)
		if !bytes.Equal(two, was) || !bytes.Equal(other, wasOther) {
			t.Fatal("two answers share memory")
		}
		isAll(t, p, at, want)
	}
	p.Revive([]bool{true, true})
	for at, want := range []byte{1, 2, 3, 4, 5, 0, 0, 0} {
		isAll(t, p, at, want)
	}
}

// P13.2: what was read stays as it was, whatever happens to the plate.
func TestReadStays(t *testing.T) {
	p := New(8)
	put(t, p, 0, 1)
	loose, _ := p.Read(0)
	expect(t, "Sync", p.Sync(), api.OK)
	safe, _ := p.Read(0)
	put(t, p, 0, 2)
	expect(t, "Sync", p.Sync(), api.OK)
	put(t, p, 0, 3)
	p.Revive([]bool{true})
	if full(loose) != ofAll(1) || full(safe) != ofAll(1) {
		t.Error("an answer changed behind its call")
	}
}

// P13.4: keep is neither changed nor kept.
func TestReviveKeepsNothing(t *testing.T) {
	p := New(8)
	all := []bool{true, false, true, false, true}
	before := slices.Clone(all)
	put(t, p, 0, 1)
	put(t, p, 1, 2)
	p.Revive(all[:2])
	if !slices.Equal(all, before) {
		t.Error("keep was changed")
	}
	for i := range all {
		all[i] = !all[i]
	}
	isAll(t, p, 0, 1)
	isAll(t, p, 1, 0)
}

// P13.4: what stands in keep's spare room isn't looked at; nil and empty are one.
func TestReviveShort(t *testing.T) {
	yes := []bool{true, true}
	for _, keep := range [][]bool{nil, {}, yes[:0], yes[:1]} {
		p := New(8)
		put(t, p, 1, 1)
		put(t, p, 2, 2)
		p.Revive(keep)
		isAll(t, p, 1, byte(len(keep)))
		isAll(t, p, 2, 0)
	}
}

// P13.5: a clone is alike in all, and what happens to one of the two isn't seen in the other.
func TestClone(t *testing.T) {
	b := newBoth(11)
	for i := range 5 { // with room for more writes in the list, which two must not share
		b.write(t, i, made(byte(i+1)))
		if i == 1 {
			b.sync(t)
		}
	}
	b.arm(3)
	one, two := b.clone(), b.clone()
	one.write(t, 0, made(77))
	two.write(t, 0, made(88))
	two.write(t, 10, made(89))
	b.write(t, 0, made(99))
	all := []both{b, one, two, two.clone(), one.clone()}
	for i, x := range all {
		hold(t, x.p, x.s, i)
	}
	for i, x := range all { // how many more are done
		for range 4 {
			x.write(t, 5, made(byte(i)))
		}
		x.sync(t)
		if !x.p.Down() {
			t.Error("not down", i)
		}
	}
	for i, x := range all {
		other := x.clone()
		hold(t, other.p, other.s, i)
		other.revive(true, true, true, true, true, true, true)
		hold(t, other.p, other.s, i)
		hold(t, x.p, x.s, i)
	}
}
