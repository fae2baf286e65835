package lms

import (
	"bytes"
	"crypto/sha256"
	"encoding/binary"
	"fmt"
	"slices"
	"strconv"
	"strings"
)

// A slow one by the chapter's words, on the library's SHA-256.

func slowH(parts ...[]byte) []byte {
	sum := sha256.Sum256(bytes.Join(parts, nil))
	return sum[:]
}

func u2(n int) []byte { return binary.BigEndian.AppendUint16(nil, uint16(n)) }
func u4(n int) []byte { return binary.BigEndian.AppendUint32(nil, uint32(n)) }

type slowWidth struct{ kind, p, ls int }

var slowWidths = map[int]slowWidth{1: {1, 265, 7}, 2: {2, 133, 6}, 4: {3, 67, 4}, 8: {4, 34, 0}}

// slowParts are the whole parts of w bits of b, by its bits written out.
func slowParts(w int, b []byte) []int {
	var text strings.Builder
	for _, c := range b {
		fmt.Fprintf(&text, "%08b", c)
	}
	var parts []int
	for at := 0; at+w <= text.Len(); at += w {
		d, _ := strconv.ParseInt(text.String()[at:at+w], 2, 0)
		parts = append(parts, int(d))
	}
	return parts
}

func slowDigits(w int, Q []byte) []int {
	sum := 0
	for _, d := range slowParts(w, Q) {
		sum += 1<<w - 1 - d
	}
	return slowParts(w, slices.Concat(Q, u2(sum<<slowWidths[w].ls)))[:slowWidths[w].p]
}

// slowTree is a tree of any height, also of one that none may have.
type slowTree struct {
	h, w int
	I, S []byte
}

func (t slowTree) secret(q, i int) []byte { return slowH(t.I, u4(q), u2(i), []byte{0xff}, t.S) }

// steps are those from one on to the one ahead of another.
func (t slowTree) steps(q, i, from, to int, x []byte) []byte {
	for j := from; j < to; j++ {
		x = slowH(t.I, u4(q), u2(i), []byte{byte(j)}, x)
	}
	return x
}

func (t slowTree) leafKey(q int) []byte {
	parts := [][]byte{t.I, u4(q), u2(0x8080)}
	for i := range slowWidths[t.w].p {
		parts = append(parts, t.steps(q, i, 0, 1<<t.w-1, t.secret(q, i)))
	}
	return slowH(parts...)
}

func (t slowTree) leafSign(q int, msg []byte) []byte {
	C := t.secret(q, 0xfffd)
	parts := [][]byte{u4(slowWidths[t.w].kind), C}
	for i, d := range slowDigits(t.w, slowH(t.I, u4(q), u2(0x8181), C, msg)) {
		parts = append(parts, t.steps(q, i, 0, d, t.secret(q, i)))
	}
	return bytes.Join(parts, nil)
}

func (t slowTree) node(r int) []byte {
	if r >= 1<<t.h {
		return slowH(t.I, u4(r), u2(0x8282), t.leafKey(r-1<<t.h))
	}
	return slowH(t.I, u4(r), u2(0x8383), t.node(2*r), t.node(2*r+1))
}

func (t slowTree) kind() int {
	if t.h == 5 {
		return 5
	}
	return 0xe0000000 + t.h
}

func (t slowTree) public() []byte { return t.publicWith(t.node(1)) }

// publicWith is a public key with a node 1 that need not be the tree's.
func (t slowTree) publicWith(root []byte) []byte {
	return slices.Concat(u4(t.kind()), u4(slowWidths[t.w].kind), t.I, root)
}

func (t slowTree) sign(q int, msg []byte) []byte {
	var path [][]byte
	for z := range t.h {
		path = append(path, t.node((1<<t.h+q)>>z^1))
	}
	return t.signWith(q, msg, path)
}

// signWith is a signature with nodes that need not be the tree's.
func (t slowTree) signWith(q int, msg []byte, path [][]byte) []byte {
	return slices.Concat(u4(q), t.leafSign(q, msg), u4(t.kind()), bytes.Join(path, nil))
}

// climb is what comes of a leaf's key by the nodes of a path.
func (t slowTree) climb(q int, path [][]byte) []byte {
	r := 1<<t.h + q
	node := slowH(t.I, u4(r), u2(0x8282), t.leafKey(q))
	for _, beside := range path {
		pair := [][]byte{node, beside}
		if r%2 == 1 {
			slices.Reverse(pair)
		}
		r /= 2
		node = slowH(t.I, u4(r), u2(0x8383), pair[0], pair[1])
	}
	return node
}

// below is the tree below the leaf q, of a height and width of its own.
func (t slowTree) below(q int, shape [2]int) slowTree {
	return slowTree{shape[0], shape[1], t.secret(q, 0xffff)[:16], t.secret(q, 0xfffe)}
}

// slowMixed is the public key and the signature at the leaves, of a key whose level number i has shapes[i] (height, width).
func slowMixed(shapes [][2]int, I, S []byte, leaves []int, msg []byte) (pk, sig []byte) {
	t := slowTree{shapes[0][0], shapes[0][1], I, S}
	pk = slices.Concat(u4(len(shapes)), t.public())
	sig = u4(len(shapes) - 1)
	for i, q := range leaves[:len(leaves)-1] {
		lower := t.below(q, shapes[i+1])
		sig = slices.Concat(sig, t.sign(q, lower.public()), lower.public())
		t = lower
	}
	return pk, slices.Concat(sig, t.sign(leaves[len(leaves)-1], msg))
}

// slowShapes are those of a key's levels.
func slowShapes(k Key) [][2]int {
	return slices.Repeat([][2]int{{k.Height, k.Width}}, k.Levels)
}

// slowLeaves are the digits of n, the highest first.
func slowLeaves(k Key, n int) []int {
	leaves := make([]int, k.Levels)
	for i := range leaves {
		leaves[k.Levels-1-i] = n % (1 << k.Height)
		n /= 1 << k.Height
	}
	return leaves
}

// slowSign is the signature number n.
func slowSign(k Key, n int, msg []byte) []byte {
	_, sig := slowMixed(slowShapes(k), k.Identity, k.Seed, slowLeaves(k, n), msg)
	return sig
}

// slowPublic is a key's public key.
func slowPublic(k Key) []byte {
	return slices.Concat(u4(k.Levels), slowTree{k.Height, k.Width, k.Identity, k.Seed}.public())
}

// field is one of a signature's, or of a public key's.
type field struct {
	name     string
	at, size int
}

// slowFields are those of a signature of a key whose levels have these shapes.
func slowFields(shapes [][2]int) []field {
	var all []field
	at := 0
	add := func(name string, size int) {
		all = append(all, field{name, at, size})
		at += size
	}
	add("levels", 4)
	for i, shape := range shapes {
		level := strconv.Itoa(i)
		add(level+" leaf", 4)
		add(level+" leaf type", 4)
		add(level+" C", 32)
		for c := range slowWidths[shape[1]].p {
			add(level+" part "+strconv.Itoa(c), 32)
		}
		add(level+" tree type", 4)
		for z := range shape[0] {
			add(level+" node "+strconv.Itoa(z), 32)
		}
		if i < len(shapes)-1 {
			add(level+" below: tree type", 4)
			add(level+" below: leaf type", 4)
			add(level+" below: identity", 16)
			add(level+" below: node 1", 32)
		}
	}
	return append(all, field{"end", at, 0})
}
