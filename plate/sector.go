package plate

import "chancery/api"

type sector [api.Sector]byte

// A write is of one sector at its place.
type write struct {
	at   int
	what sector
}

// content has the sectors by their places, but for those that are noughts: as all are so at first, a plate takes no more room than what was written on it.
type content map[int]sector

func (c content) put(at int, what sector) {
	if what == (sector{}) {
		delete(c, at)
		return
	}
	c[at] = what
}
