package merkle

import (
	"bytes"
	"math"
	"testing"
)

// P16.3: the paths that a tree tells lead to its roots, and to no others.
func TestIncluded(t *testing.T) {
	leaves := leavesOf(20)
	tree := treeOf(leaves)
	for n := range len(leaves) + 1 {
		all := root(t, tree, n)
		for m := range n {
			list := path(t, tree, m, n)
			if !Included(Leaf(leaves[m]), m, n, list, all) {
				t.Fatal(m, n)
			}
			for other := range len(leaves) {
				if other != m && Included(Leaf(leaves[other]), m, n, list, all) {
					t.Fatal(m, n, "with the leaf", other)
				}
				if other != n && Included(Leaf(leaves[m]), m, n, list, root(t, tree, other)) {
					t.Fatal(m, n, "with the root of", other)
				}
			}
		}
	}
}

// P16.3: what leads to a root at one place, asked at each other: as it comes to there.
func TestIncludedElsewhere(t *testing.T) {
	leaves := leavesOf(18)
	tree := treeOf(leaves)
	truths := 0
	for n := range len(leaves) + 1 {
		for m := range n {
			list, all := path(t, tree, m, n), root(t, tree, n)
			for wide := range len(leaves) + 1 {
				for at := range wide {
					got, want := Included(Leaf(leaves[m]), at, wide, list, all), risenPath(Leaf(leaves[m]), at, wide, list, all)
					if got != want {
						t.Fatal(m, n, "as", at, wide, got)
					}
					if got {
						truths++
					}
				}
			}
		}
	}
	if truths == 0 {
		t.Error("nothing was right")
	}
}

// P16.3: no place outside the list, whatever the rest.
func TestIncludedOutside(t *testing.T) {
	leaf := Leaf(nil)
	for _, n := range append(outside(3), 0, 1, 2, 3) {
		for _, m := range []int{-1, n, n + 1, math.MinInt, math.MaxInt} {
			for length := range 4 {
				list := make([][]byte, length)
				for i := range list {
					list[i] = leaf
				}
				if m >= 0 && m < n {
					continue
				}
				for _, all := range [][]byte{leaf, end(leaf, make([]bool, length), list), slowRoot(nil)} {
					if Included(leaf, m, n, list, all) {
						t.Fatal(m, n, length)
					}
				}
			}
		}
	}
}

// P16.3: a path that comes to the root has the length too, in lists that are longer than any tree.
func TestIncludedLength(t *testing.T) {
	draw := draws(1)
	places := [][2]int{{0, 1 << 30}, {1<<30 - 1, 1 << 30}, {0, 1<<30 + 1}, {1 << 30, 1<<30 + 1}, {5, 1 << 62}, {1<<62 - 1, 1 << 62}, {1 << 62, 1<<62 + 1},
		{0, math.MaxInt}, {math.MaxInt - 1, math.MaxInt}, {1 << 62, math.MaxInt}, {1<<62 - 1, math.MaxInt}, {0x123456789abcdef, 0x4fedcba987654321}}
	for n := range 34 {
		for m := range n {
			places = append(places, [2]int{m, n})
		}
	}
	for _, at := range places {
		m, n := at[0], at[1]
		sides, leaf := lefts(m, n), draw()
		var list [][]byte
		for range sides {
			list = append(list, draw())
		}
		all := end(leaf, sides, list)
		if !Included(leaf, m, n, list, all) || !risenPath(leaf, m, n, list, all) {
			t.Fatal(m, n)
		}
		if other := draw(); Included(leaf, m, n, append(list, other), end(all, []bool{true}, [][]byte{other})) || Included(leaf, m, n, append(list, other), end(all, []bool{false}, [][]byte{other})) || Included(leaf, m, n, append(list, other), all) {
			t.Error(m, n, "one more at the end")
		}
		if len(list) == 0 {
			continue
		}
		if Included(leaf, m, n, list[:len(list)-1], end(leaf, sides, list[:len(list)-1])) || Included(leaf, m, n, list[:len(list)-1], all) {
			t.Error(m, n, "one less at the end")
		}
		if Included(end(leaf, sides, list[:1]), m, n, list[1:], all) {
			t.Error(m, n, "one less at the beginning")
		}
		if under := [][]byte{draw()}; Included(list[0], m, n, append(under, list...), end(slowSum(1, list[0], under[0]), sides, list)) {
			t.Error(m, n, "one more at the beginning")
		}
		if Included(leaf, m, n, nil, all) || Included(all, m, n, nil, all) {
			t.Error(m, n, "nothing")
		}
	}
}

// P16.3: each bit of each hash counts.
func TestIncludedBits(t *testing.T) {
	leaves := leavesOf(13)
	tree := treeOf(leaves)
	for m := range len(leaves) {
		list := append(path(t, tree, m, len(leaves)), Leaf(leaves[m]), root(t, tree, len(leaves)))
		asked := func() bool {
			return Included(list[len(list)-2], m, len(leaves), list[:len(list)-2], list[len(list)-1])
		}
		for _, hash := range list {
			for bit := range 8 * size {
				hash[bit/8] ^= 1 << (bit % 8)
				if asked() {
					t.Fatal("leaf", m, "bit", bit)
				}
				hash[bit/8] ^= 1 << (bit % 8)
			}
		}
		if !asked() {
			t.Fatal("leaf", m)
		}
	}
}

// lengths are those that no hash has, with bytes of a longer one.
func lengths(hash []byte) [][]byte {
	long := append(bytes.Clone(hash), hash...)
	return [][]byte{nil, {}, long[:1], long[:size-1], long[:size+1], long[:2*size], append(bytes.Clone(hash), 0)}
}

// P16.3: a hash that hasn't 32 bytes, at each place.
func TestIncludedHashes(t *testing.T) {
	leaves := leavesOf(11)
	tree := treeOf(leaves)
	n := len(leaves)
	for m := range n {
		leaf, all, list := Leaf(leaves[m]), root(t, tree, n), path(t, tree, m, n)
		for _, wrong := range lengths(leaf) {
			if Included(wrong, m, n, list, all) || Included(wrong, m, n, list, end(wrong, lefts(m, n), list)) {
				t.Errorf("leaf %d has %d bytes", m, len(wrong))
			}
		}
		for _, wrong := range lengths(all) {
			if Included(leaf, m, n, list, wrong) {
				t.Errorf("leaf %d, the root has %d bytes", m, len(wrong))
			}
		}
		for i := range list {
			for _, wrong := range lengths(list[i]) {
				bad := copied(list)
				bad[i] = wrong
				if Included(leaf, m, n, bad, all) || Included(leaf, m, n, bad, end(leaf, lefts(m, n), bad)) {
					t.Errorf("leaf %d, hash %d has %d bytes", m, i, len(wrong))
				}
			}
			if Included(leaf, m, n, append(copied(list), nil), all) {
				t.Errorf("leaf %d, one more that is empty", m)
			}
		}
	}
	for _, wrong := range lengths(Leaf(nil)) {
		if Included(wrong, 0, 1, nil, wrong) {
			t.Errorf("one leaf of %d bytes", len(wrong))
		}
	}
}

// P16.3: bytes that are moved from one hash to its neighbour come to the same root, and are refused.
func TestIncludedMoved(t *testing.T) {
	leaves := leavesOf(6)
	tree := treeOf(leaves)
	all := root(t, tree, 6)
	for m := range 4 {
		list := path(t, tree, m, 6)
		both := bytes.Join([][]byte{Leaf(leaves[m]), list[0]}, nil)
		if m%2 == 1 {
			both = bytes.Join([][]byte{list[0], Leaf(leaves[m])}, nil)
		}
		for cut := range 2*size + 1 {
			leaf, other := both[:cut], both[cut:]
			if m%2 == 1 {
				leaf, other = other, leaf
			}
			moved := append([][]byte{other}, list[1:]...)
			if !risenPath(leaf, m, 6, moved, all) || Included(leaf, m, 6, moved, all) != (cut == size) {
				t.Error(m, cut)
			}
		}
	}
}
