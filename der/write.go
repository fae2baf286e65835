package der

import (
	"bytes"
	"math/bits"
	"slices"

	"chancery/api"
)

// check is the first error of a value that stands within depth others, but for its size.
func check(v Value, depth int) api.Errno {
	if depth > api.MaxDepth {
		return api.ErrDeep
	}
	if v.Class < 0 || v.Class > mostClass || v.Tag < 0 || v.Tag > mostTag {
		return api.ErrTag
	}
	r, ok := ruleFor(v)
	if !ok {
		return api.ErrTag
	}
	if !v.Made {
		if len(v.Kids) > 0 || !r.bytes(v.Bytes) {
			return api.ErrValue
		}
		return api.OK
	}
	if len(v.Bytes) > 0 {
		return api.ErrValue
	}
	for _, kid := range v.Kids {
		if e := check(kid, depth+1); e != api.OK {
			return e
		}
	}
	if !r.kids(v.Kids) {
		return api.ErrOrder
	}
	return api.OK
}

// put puts a right value behind b.
func put(b []byte, v Value) []byte {
	b = append(b, head(v, inner(v))...)
	b = append(b, v.Bytes...)
	for _, kid := range v.Kids {
		b = put(b, kid)
	}
	return b
}

// head is what stands ahead of the n bytes that a value's Bytes or Kids have.
func head(v Value, n int) []byte {
	first := byte(v.Class<<6 | min(v.Tag, longTag))
	if v.Made {
		first |= madeBit
	}
	b := []byte{first}
	if v.Tag >= longTag {
		b = putTag(b, v.Tag)
	}
	return putLength(b, n)
}

// putTag puts the groups of a tag behind b.
func putTag(b []byte, tag int) []byte {
	for k := mostGroups - 1; k > 0; k-- {
		if tag >= 1<<(7*k) {
			b = append(b, byte(tag>>(7*k))|moreBit)
		}
	}
	return append(b, byte(tag)&^moreBit)
}

// putLength puts a length behind b.
func putLength(b []byte, n int) []byte {
	if n < moreBit {
		return append(b, byte(n))
	}
	count := (bits.Len(uint(n)) + 7) / 8
	b = append(b, byte(moreBit+count))
	for k := count - 1; k >= 0; k-- {
		b = append(b, byte(n>>(8*k)))
	}
	return b
}

// size is how many bytes a right value has.
func size(v Value) int {
	n := inner(v)
	return len(head(v, n)) + n
}

// inner is how many bytes its Bytes or Kids have.
func inner(v Value) int {
	n := len(v.Bytes)
	for _, kid := range v.Kids {
		n += size(kid)
	}
	return n
}

// compare holds two right values against each other as they would stand in bytes. It doesn't write them, as they may be far too big for that.
func compare(a, b Value) int {
	if c := bytes.Compare(head(a, inner(a)), head(b, inner(b))); c != 0 {
		return c
	}
	if c := bytes.Compare(a.Bytes, b.Bytes); c != 0 {
		return c
	}
	return slices.CompareFunc(a.Kids, b.Kids, compare)
}
