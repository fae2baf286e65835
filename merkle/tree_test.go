package merkle

import (
	"bytes"
	"math"
	"testing"
)

// outside are numbers that no tree of so many leaves has.
func outside(size int) []int {
	return []int{-1, -2, -size - 1, size + 1, size + 2, 2*size + 1, 1 << 32, 1 << 62, math.MaxInt, math.MinInt, math.MinInt + 1}
}

// P16.1: a new tree is over no leaves.
func TestNew(t *testing.T) {
	tree := New()
	if tree.Size() != 0 || !bytes.Equal(root(t, tree, 0), slowRoot(nil)) {
		t.Error(tree.Size(), root(t, tree, 0))
	}
	for _, n := range []int{1, 2, -1, math.MaxInt, math.MinInt} {
		if hash, ok := tree.Root(n); ok || hash != nil {
			t.Error("Root", n)
		}
	}
	tree.Add(nil)
	if New().Size() != 0 || tree.Size() != 1 {
		t.Error("two trees are one")
	}
}

// P16.1: the hash of the first n, at each size.
func TestRoot(t *testing.T) {
	leaves := leavesOf(70)
	tree := New()
	for size := 0; ; size++ {
		if tree.Size() != size {
			t.Fatal("Size", tree.Size(), size)
		}
		for n := range size + 1 {
			if !bytes.Equal(root(t, tree, n), slowRoot(leaves[:n])) {
				t.Fatal("Root", n, "of", size)
			}
		}
		for _, n := range outside(size) {
			if hash, ok := tree.Root(n); ok || hash != nil {
				t.Fatal("Root", n, "of", size)
			}
		}
		if size == len(leaves) {
			return
		}
		tree.Add(leaves[size])
	}
}

// P16.1, P16.3: leaves of all lengths, and such as look like what is hashed of two hashes.
func TestLeaf(t *testing.T) {
	two := treeOf(leavesOf(2))
	left, right := Leaf(leavesOf(2)[0]), Leaf(leavesOf(2)[1])
	for _, leaf := range [][]byte{nil, {}, {0}, {1}, make([]byte, 31), make([]byte, 32), make([]byte, 55), make([]byte, 64), make([]byte, 65),
		bytes.Join([][]byte{left, right}, nil), bytes.Join([][]byte{{1}, left, right}, nil), left, make([]byte, 70000)} {
		hash := Leaf(leaf)
		if !bytes.Equal(hash, slowSum(0, leaf)) {
			t.Errorf("Leaf of %d bytes", len(leaf))
		}
		tree := treeOf([][]byte{leaf})
		if !bytes.Equal(root(t, tree, 1), hash) || bytes.Equal(hash, root(t, two, 2)) {
			t.Errorf("Root of a leaf of %d bytes", len(leaf))
		}
	}
}

// P16.2: the path of each leaf in each list; it stays as it is when the tree grows.
func TestPath(t *testing.T) {
	leaves := leavesOf(40)
	tree := New()
	for size := range len(leaves) + 1 {
		for n := range size + 1 {
			for m := range n {
				if got, want := path(t, tree, m, n), slowPath(leaves[:n], m); !sameList(got, want) {
					t.Fatalf("Path(%d, %d) of %d: %x, want %x", m, n, size, got, want)
				}
			}
			for _, m := range append(outside(n), n) {
				if list, ok := tree.Path(m, n); ok || list != nil {
					t.Fatal("Path", m, n, "of", size)
				}
			}
		}
		for _, n := range outside(size) {
			for _, m := range []int{0, 1, -1, size - 1, n - 1, n, n + 1, math.MinInt, math.MaxInt} {
				if list, ok := tree.Path(m, n); ok || list != nil {
					t.Fatal("Path", m, n, "of", size)
				}
			}
		}
		if size < len(leaves) {
			tree.Add(leaves[size])
		}
	}
}

// P16.2: the bridge between any two; it stays as it is when the tree grows.
func TestBridge(t *testing.T) {
	leaves := leavesOf(40)
	tree := New()
	for size := range len(leaves) + 1 {
		for n := range size + 1 {
			for m := range n + 1 {
				if got, want := bridge(t, tree, m, n), slowBridge(leaves[:n], m); !sameList(got, want) {
					t.Fatalf("Bridge(%d, %d) of %d: %x, want %x", m, n, size, got, want)
				}
			}
			for _, m := range outside(n) {
				if list, ok := tree.Bridge(m, n); ok || list != nil {
					t.Fatal("Bridge", m, n, "of", size)
				}
			}
		}
		for _, n := range outside(size) {
			for _, m := range []int{0, 1, -1, size, n - 1, n, n + 1, math.MinInt, math.MaxInt} {
				if list, ok := tree.Bridge(m, n); ok || list != nil {
					t.Fatal("Bridge", m, n, "of", size)
				}
			}
		}
		if size < len(leaves) {
			tree.Add(leaves[size])
		}
	}
}

// P16.1, P16.2: a list of thousands, whole and cut around the powers of 2.
func TestLong(t *testing.T) {
	leaves := leavesOf(4100)
	tree := treeOf(leaves)
	for _, n := range []int{1023, 1024, 1025, 2047, 2048, 2049, 3000, 4095, 4096, 4097, 4100} {
		all := root(t, tree, n)
		if !bytes.Equal(all, slowRoot(leaves[:n])) {
			t.Error("Root", n)
		}
		for _, m := range []int{1, 2, 511, 512, 1000, 1022} {
			if !sameList(path(t, tree, m, n), slowPath(leaves[:n], m)) || !Included(Leaf(leaves[m]), m, n, path(t, tree, m, n), all) {
				t.Error("Path", m, n)
			}
			if !sameList(bridge(t, tree, m, n), slowBridge(leaves[:n], m)) || !Grown(m, n, root(t, tree, m), all, bridge(t, tree, m, n)) {
				t.Error("Bridge", m, n)
			}
		}
	}
}

// The chapter's examples.
func TestExamples(t *testing.T) {
	tree := treeOf([][]byte{{1}, {2}, {3}})
	if got := path(t, tree, 2, 3); !sameList(got, [][]byte{root(t, tree, 2)}) {
		t.Errorf("Path(2, 3): %x", got)
	}
	if got := bridge(t, tree, 2, 3); !sameList(got, [][]byte{Leaf([]byte{3})}) {
		t.Errorf("Bridge(2, 3): %x", got)
	}
	if got := bridge(t, tree, 1, 2); !sameList(got, [][]byte{Leaf([]byte{2})}) {
		t.Errorf("Bridge(1, 2): %x", got)
	}
}
