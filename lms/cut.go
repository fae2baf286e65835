package lms

// A storey is what a signature has of one level.
type storey struct {
	shape         // as its types say
	leaf   int    // at which leaf it signs
	c      []byte // C
	parts  []byte // of the chains, one behind the other
	beside []byte // the nodes that are needed to climb to node 1, one behind the other
	below  []byte // the public key of the tree below; nothing at the last level
}

// cut is a signature's storeys, and whether it has the form of one.
func cut(sig []byte) ([]storey, bool) {
	r := reader{rest: sig}
	levels := r.number() + 1
	if !isLevels(levels) {
		return nil, false
	}
	storeys := make([]storey, levels)
	for i := range storeys {
		s, ok := r.storey()
		if !ok {
			return nil, false
		}
		if i < levels-1 {
			s.below = r.take(publicSize)
		}
		storeys[i] = s
	}
	return storeys, r.ended()
}

// storey is one of a signature, without what is below, and whether its numbers are those of one.
func (r *reader) storey() (storey, bool) {
	leaf := r.number()
	w, ok := widthOfKind(r.number())
	if !ok {
		return storey{}, false
	}
	c, parts := r.take(hashSize), r.take(hashSize*w.chains)
	height, ok := heightOfKind(r.number())
	if !ok {
		return storey{}, false
	}
	s := storey{shape: shape{height: height, width: w}, leaf: leaf, c: c, parts: parts, beside: r.take(hashSize * height)}
	return s, leaf < s.leaves()
}

// A reader takes bytes from the front of what it has. Whether there were enough is asked once, at the end.
type reader struct {
	rest  []byte
	short bool // more was asked for than there was
}

// take is the next so many bytes, or nothing, if there are fewer.
func (r *reader) take(n int) []byte {
	if n > len(r.rest) {
		r.short = true
		return nil
	}
	b := r.rest[:n]
	r.rest = r.rest[n:]
	return b
}

// number is that of the next four bytes.
func (r *reader) number() int { return number(r.take(numberSize)) }

// ended tells whether it had all that was asked for, and has nothing more.
func (r *reader) ended() bool { return !r.short && len(r.rest) == 0 }
