package wal

import (
	"chancery/api"
	"chancery/plate"
)

func readAll(p *plate.Plate, from int, to int) ([][]byte, api.Errno) {
	sectors := make([][]byte, 0, to-from)
	for at := from; at < to; at++ {
		s, e := p.Read(at)
		if e != api.OK {
			return nil, e
		}
		sectors = append(sectors, s)
	}
	return sectors, api.OK
}

// recordsIn are the records that are there, and how many sectors they take.
func recordsIn(sectors [][]byte, gen int) ([][]byte, int) {
	var records [][]byte
	used := 0
	ahead := head{gen: gen, opening: 1}
	for used < len(sectors) {
		first := readHead(sectors[used])
		if !first.follows(ahead) {
			break
		}
		r, ok := recordAt(sectors[used:], first)
		if !ok {
			break
		}
		records = append(records, r)
		used += first.last + 1
		ahead = first
	}
	return records, used
}

// follows tells whether a record with this head may be the one behind another; what an earlier opening left behind may not.
func (h head) follows(ahead head) bool {
	return h.gen == ahead.gen && h.number == ahead.number+1 && h.opening >= ahead.opening
}

// recordAt reads the record whose parts all go with the first one's head; false, if one is missing.
func recordAt(sectors [][]byte, first head) ([]byte, bool) {
	if first.last >= len(sectors) {
		return nil, false
	}
	want := first
	want.place = 0
	var parts []byte
	for _, s := range sectors[:first.last+1] {
		if readHead(s) != want {
			return nil, false
		}
		parts = append(parts, s[headBytes:]...)
		want.place++
	}
	return withoutLength(parts)
}

// greatestOpening counts parts of records that are not there too, lest a new record be taken together with what is left of them.
func greatestOpening(sectors [][]byte, gen int) int {
	greatest := 0
	for _, s := range sectors {
		if h := readHead(s); h.gen == gen && h.isPart() {
			greatest = max(greatest, h.opening)
		}
	}
	return greatest
}
