package round

const (
	mostBits  = 24
	mostLists = 16
	mostTrue  = 255 // how many are true must stand in a byte
	size      = 256 // how many bools a list of hints has
)

// Pack writes numbers in bits.
func Pack(list []int, bits int) ([]byte, bool) {
	if !width(bits) || !within(list, bits) {
		return nil, false
	}
	out := make([]byte, 0, (len(list)*bits+7)/8)
	held, have := uint32(0), 0 // fewer than 8 bits wait between numbers, so 32 are enough
	for _, n := range list {
		held |= uint32(n) << have
		for have += bits; have >= 8; have -= 8 {
			out = append(out, byte(held))
			held >>= 8
		}
	}
	if have > 0 {
		out = append(out, byte(held))
	}
	return out, true
}

// width tells whether numbers may have so many bits.
func width(bits int) bool { return bits >= 1 && bits <= mostBits }

// within tells whether the numbers have no more bits than that.
func within(list []int, bits int) bool {
	for _, n := range list {
		if n < 0 || n >= 1<<bits {
			return false
		}
	}
	return true
}

// Unpack reads them.
func Unpack(b []byte, bits int) ([]int, bool) {
	if !width(bits) {
		return nil, false
	}
	list := make([]int, 0, len(b)*8/bits)
	held, have := uint32(0), 0 // fewer than 24 bits wait between bytes, so 32 are enough
	for _, x := range b {
		held |= uint32(x) << have
		for have += 8; have >= bits; have -= bits {
			list = append(list, int(held&(1<<bits-1)))
			held >>= bits
		}
	}
	return list, true
}

// PackHints writes the places that are true.
func PackHints(lists [][]bool, most int) ([]byte, bool) {
	if !allowed(len(lists), most) {
		return nil, false
	}
	out := make([]byte, most+len(lists))
	used := 0
	for i, list := range lists {
		if len(list) != size {
			return nil, false
		}
		places := trueAt(list)
		if used+len(places) > most {
			return nil, false
		}
		used += copy(out[used:], places)
		out[most+i] = byte(used)
	}
	return out, true
}

// allowed tells whether there may be so many lists with so many places.
func allowed(lists, most int) bool {
	return lists >= 0 && lists <= mostLists && most >= 0 && most <= mostTrue
}

// trueAt is the places of a list that are true, rising.
func trueAt(list []bool) []byte {
	var places []byte
	for i, is := range list {
		if is {
			places = append(places, byte(i))
		}
	}
	return places
}

// UnpackHints reads them.
func UnpackHints(b []byte, lists int, most int) ([][]bool, bool) {
	if !allowed(lists, most) || len(b) != most+lists {
		return nil, false
	}
	out := make([][]bool, lists)
	used := 0
	for i := range out {
		upTo := int(b[most+i])
		if upTo < used || upTo > most || !rising(b[used:upTo]) {
			return nil, false
		}
		out[i] = marked(b[used:upTo])
		used = upTo
	}
	for _, x := range b[used:most] {
		if x != 0 {
			return nil, false
		}
	}
	return out, true
}

// rising tells whether each place is above the one ahead of it.
func rising(places []byte) bool {
	for i := 1; i < len(places); i++ {
		if places[i-1] >= places[i] {
			return false
		}
	}
	return true
}

// marked is a list that is true at these places.
func marked(places []byte) []bool {
	list := make([]bool, size)
	for _, p := range places {
		list[p] = true
	}
	return list
}
