package store

import "chancery/api"

// What a change's first byte says.
const (
	isGone = 0
	isSet  = 1
)

// How many bytes a length takes.
const (
	keyLength   = 1
	valueLength = 4
)

// Change sets a key, or removes it.
type Change struct {
	Key, Value []byte
	Gone       bool
}

// isGood tells whether its key and its value have their lengths.
func (c Change) isGood() bool {
	if len(c.Key) < 1 || len(c.Key) > api.MaxKey {
		return false
	}
	return c.Gone || len(c.Value) <= api.MaxValue
}

func areGood(list []Change) bool {
	for _, c := range list {
		if !c.isGood() {
			return false
		}
	}
	return true
}

// inBytes writes good changes one behind the other.
func inBytes(list []Change) []byte {
	var b []byte
	for _, c := range list {
		if c.Gone {
			b = addPart(append(b, isGone), keyLength, c.Key)
		} else {
			b = addPart(append(b, isSet), keyLength, c.Key)
			b = addPart(b, valueLength, c.Value)
		}
	}
	return b
}

// readChanges reads a list of changes; false, if the bytes are none. The list shares their memory.
func readChanges(b []byte) ([]Change, bool) {
	var list []Change
	for len(b) > 0 {
		c, rest, ok := cutChange(b)
		if !ok {
			return nil, false
		}
		list = append(list, c)
		b = rest
	}
	return list, true
}

// cutChange cuts the first change off.
func cutChange(b []byte) (c Change, rest []byte, ok bool) {
	if b[0] != isSet && b[0] != isGone {
		return Change{}, nil, false
	}
	c.Gone = b[0] == isGone
	c.Key, rest, ok = cutPart(b[1:], keyLength)
	if ok && !c.Gone {
		c.Value, rest, ok = cutPart(rest, valueLength)
	}
	return c, rest, ok && c.isGood()
}

// addPart writes a part behind its length.
func addPart(b []byte, size int, part []byte) []byte {
	return append(addNumber(b, size, len(part)), part...)
}

// cutPart cuts off a part that stands behind its length; false, if it isn't there whole.
func cutPart(b []byte, size int) (part, rest []byte, ok bool) {
	if len(b) < size {
		return nil, nil, false
	}
	length, behind := readNumber(b[:size]), b[size:]
	if length > len(behind) {
		return nil, nil, false
	}
	return behind[:length], behind[length:], true
}

// addNumber writes a number's lowest bytes, the highest of them first.
func addNumber(b []byte, size int, n int) []byte {
	for shift := 8 * (size - 1); shift >= 0; shift -= 8 {
		b = append(b, byte(n>>shift))
	}
	return b
}

func readNumber(b []byte) int {
	n := 0
	for _, x := range b {
		n = n<<8 | int(x)
	}
	return n
}
