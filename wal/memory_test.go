package wal

import (
	"bytes"
	"slices"
	"testing"

	"chancery/api"
)

// spoil writes over a list and its spare room.
func spoil(b []byte) {
	for i := range b[:cap(b)] {
		b[:cap(b)][i] ^= 0xa5
	}
}

// P14.2: what is appended is neither changed nor kept, nor what stands beside it, be it done or refused.
func TestAppendKeepsNothing(t *testing.T) {
	p := newPlate(t, 16)
	l := open(t, p, 0, 12, 1)
	around := full(7, 400)
	before := slices.Clone(around)
	add(t, l, around[10:110])
	add(t, l, around[50:50])
	expect(t, "too long", l.Append(around[:390]), api.ErrFull)
	add(t, l, around[10:50])
	p.Arm(1)
	expect(t, "crash", l.Append(around[1:100]), api.ErrCrash)
	expect(t, "closed", l.Append(around[1:100]), api.ErrClosed)
	if !bytes.Equal(around, before) {
		t.Fatal("what was handed in was changed")
	}
	spoil(around)
	holds(t, l, full(7, 100), nil, full(7, 40))
	p.Revive([]bool{true})
	holds(t, open(t, p, 0, 12, 1), full(7, 100), nil, full(7, 40))
}

// P14.1: records are new memory each time, and no two of one answer share any, spare room too.
func TestRecordsAreNew(t *testing.T) {
	p := newPlate(t, 32)
	var want [][]byte
	l := open(t, p, 0, 32, 1)
	for i := range 9 {
		want = append(want, full(byte(i+1), 13*i))
		add(t, l, want[i])
	}
	for _, x := range []*Log{l, open(t, p, 0, 32, 1)} {
		for i := range want {
			one, two := x.Records(), x.Records()
			spoil(one[i])
			for j := range want {
				if j != i && !bytes.Equal(one[j], want[j]) {
					t.Fatalf("the records %d and %d share memory", i, j)
				}
			}
			if !same(two, want) {
				t.Fatal("two answers share memory")
			}
			holds(t, x, want...)
			clear(one[:cap(one)])
			if !same(two, want) {
				t.Fatal("two lists share memory")
			}
			holds(t, x, want...)
		}
	}
	holdsByWords(t, p, 0, 32, 1)
}

// P14.1: what was told stays as it was, whatever is appended then.
func TestRecordsStay(t *testing.T) {
	p := newPlate(t, 32)
	l := open(t, p, 0, 32, 1)
	var told [][][]byte
	for i := range 9 {
		told = append(told, l.Records())
		add(t, l, full(byte(i), i))
	}
	for n, list := range told {
		if !same(list, l.Records()[:n]) {
			t.Error("an answer changed behind its call", n)
		}
	}
}
