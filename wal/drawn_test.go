package wal

import (
	"math/rand"
	"slices"
	"testing"
)

// drawnLog is sectors as logs of a few generations and openings might have left them, at places where they may or may not be right.
func drawnLog(r *rand.Rand, count int) [][]byte {
	var sectors [][]byte
	number, opening := 1, 1+r.Intn(3)
	for len(sectors) < count {
		gen := 6
		switch r.Intn(12) {
		case 0:
			gen = 5 + r.Intn(3)
		case 1:
			number += r.Intn(3) - 1
		case 2:
			opening = max(0, opening+r.Intn(4)-2)
		}
		record := make([]byte, r.Intn(200))
		r.Read(record[:r.Intn(len(record)+1)])
		sectors = append(sectors, slowSectors(gen, opening, number, record)...)
		number++
	}
	return sectors[:count]
}

// spoilt changes a few bytes of sectors, mostly those of their numbers.
func spoilt(r *rand.Rand, sectors [][]byte) {
	for range r.Intn(3) {
		s := sectors[r.Intn(len(sectors))]
		switch r.Intn(4) {
		case 0:
			s[r.Intn(64)] = byte(r.Intn(256))
		case 1:
			s[r.Intn(20)] ^= 1 << r.Intn(8)
		case 2:
			s[3+4*r.Intn(5)]++
		case 3:
			i, j := r.Intn(len(sectors)), r.Intn(len(sectors))
			sectors[i], sectors[j] = sectors[j], sectors[i]
		}
	}
}

// P14.1, P14.2: drawn sectors, by the chapter's words; what is appended then stands behind what is there.
func TestDrawnSectors(t *testing.T) {
	r := rand.New(rand.NewSource(141))
	seen := map[int]int{}
	for range 20000 {
		count := 1 + r.Intn(16)
		from := r.Intn(3)
		p := newPlate(t, 20)
		sectors := drawnLog(r, count)
		spoilt(r, sectors)
		lay(t, p, from, sectors...)
		l := holdsByWords(t, p, from, from+count, 6)
		there, used := slowThere(sectors, 6)
		seen[len(there)]++
		record := make([]byte, r.Intn(100))
		r.Read(record)
		written := slowSectors(6, l.Opening(), len(there)+1, record)
		if used+len(written) > count {
			continue
		}
		add(t, l, record)
		copy(sectors[used:], written)
		if !same(allOf(t, p, from, from+count), sectors) {
			t.Fatal("other sectors")
		}
		if again := holdsByWords(t, p, from, from+count, 6); !same(again.Records()[:len(there)+1], append(slices.Clone(there), record)) {
			t.Fatal("not there")
		}
	}
	for _, n := range []int{0, 1, 2, 3, 5} {
		if seen[n] < 100 {
			t.Errorf("only %d logs with %d records", seen[n], n)
		}
	}
}

// P14.1: sectors of drawn bytes have no records, unless by the chapter's words.
func TestDrawnBytes(t *testing.T) {
	r := rand.New(rand.NewSource(142))
	for range 3000 {
		p := newPlate(t, 8)
		for at := range 8 {
			s := make([]byte, 64)
			r.Read(s[r.Intn(64):])
			for i := range 15 {
				if r.Intn(8) > 0 {
					s[i] = 0
				}
			}
			s[3] = byte(r.Intn(2))
			lay(t, p, at, s)
		}
		holdsByWords(t, p, 0, 8, 1)
	}
}
