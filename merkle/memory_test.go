package merkle

import (
	"bytes"
	"math/rand"
	"testing"
)

// spoil writes over hashes and their spare room.
func spoil(list ...[]byte) {
	for _, b := range list {
		for i := range b[:cap(b)] {
			b[:cap(b)][i] ^= 0xa5
		}
	}
}

// spoilList writes over a list of hashes, them, and all spare room.
func spoilList(list [][]byte) {
	spoil(list...)
	all := list[:cap(list)]
	for i := range all {
		spoil(all[i])
		all[i] = []byte("spoiled")
	}
}

// roomy is b with spare room behind it, in which something stands; untouched tells whether it is still as it was made.
func roomy(b []byte) []byte {
	return append(bytes.Clone(b), bytes.Repeat([]byte{0x5a}, 100)...)[:len(b)]
}

func untouched(got, b []byte) bool {
	room := got[:len(b)+100]
	return bytes.Equal(room[:len(b)], b) && bytes.Equal(room[len(b):], bytes.Repeat([]byte{0x5a}, 100))
}

// P16.1: a leaf is neither changed nor kept.
func TestAddKeepsNothing(t *testing.T) {
	leaves := append(leavesOf(20), make([]byte, 32), make([]byte, 64))
	tree := New()
	for _, leaf := range leaves {
		given := roomy(leaf)
		tree.Add(given)
		if hash := Leaf(given); !untouched(given, leaf) || !bytes.Equal(hash, slowSum(0, leaf)) {
			t.Fatal("a leaf was changed")
		}
		spoil(given)
	}
	for n := range len(leaves) + 1 {
		if !bytes.Equal(root(t, tree, n), slowRoot(leaves[:n])) {
			t.Fatal("Root", n)
		}
	}
}

// The rules: what is told is new memory: spoiled, it changes neither the tree, nor other answers, nor its own other hashes.
func TestAnswersAreNew(t *testing.T) {
	const most = 17
	leaves := leavesOf(most)
	tree := treeOf(leaves)
	check := func(what string, ask func() [][]byte) {
		t.Helper()
		want, other := copied(ask()), ask()
		for i := range want {
			told := ask()
			spoil(told[i])
			for j := range told {
				if j != i && !bytes.Equal(told[j], want[j]) {
					t.Fatal(what, "two hashes of it share memory")
				}
			}
		}
		told := ask()
		spoilList(told)
		if !sameList(other, want) || !sameList(ask(), want) {
			t.Fatal(what, "shares memory")
		}
	}
	for n := range most + 1 {
		check("Root", func() [][]byte { return [][]byte{root(t, tree, n)} })
		for m := range n + 1 {
			check("Bridge", func() [][]byte { return bridge(t, tree, m, n) })
			if m < n {
				check("Path", func() [][]byte { return path(t, tree, m, n) })
			}
		}
		if !bytes.Equal(root(t, tree, most), slowRoot(leaves)) {
			t.Fatal("the tree was changed")
		}
	}
	check("Leaf", func() [][]byte { return [][]byte{Leaf(leaves[3])} })
}

// The rules: a tree that grows changes nothing that was told.
func TestAnswersStay(t *testing.T) {
	const most = 33
	leaves := leavesOf(most)
	tree := New()
	var roots [][]byte
	var paths, bridges [][][]byte
	for n := range most {
		tree.Add(leaves[n])
		roots = append(roots, root(t, tree, n+1))
		paths = append(paths, path(t, tree, n/2, n+1))
		bridges = append(bridges, bridge(t, tree, n/2, n+1))
	}
	for n := range most {
		now := leaves[:n+1]
		if !bytes.Equal(roots[n], slowRoot(now)) || !sameList(paths[n], slowPath(now, n/2)) || !sameList(bridges[n], slowBridge(now, n/2)) {
			t.Fatal("an answer changed behind its call", n)
		}
	}
}

// The rules: verifying changes nothing, right or wrong.
func TestVerifyingChangesNothing(t *testing.T) {
	leaves := leavesOf(13)
	tree := treeOf(leaves)
	given := func(list [][]byte) [][]byte {
		var out [][]byte
		for _, b := range list {
			out = append(out, roomy(b))
		}
		return append(out, []byte("behind"))[:len(list)]
	}
	same := func(got, want [][]byte) bool {
		for i := range want {
			if !untouched(got[i], want[i]) {
				return false
			}
		}
		return string(got[:len(want)+1][len(want)]) == "behind"
	}
	for n := 1; n <= len(leaves); n++ {
		for m := range n {
			hashes := [][]byte{Leaf(leaves[m]), root(t, tree, n), root(t, tree, m)}
			way, over := path(t, tree, m, n), bridge(t, tree, m, n)
			ends, list, spans := given(hashes), given(way), given(over)
			if !Included(ends[0], m, n, list, ends[1]) || !Grown(m, n, ends[2], ends[1], spans) {
				t.Fatal(m, n)
			}
			Included(ends[1], m, n, list, ends[0])
			Included(ends[0], m, n+9, list, ends[1])
			Grown(m, n, ends[1], ends[2], spans)
			Grown(m+1, n+9, ends[2], ends[1], list)
			if !same(ends, hashes) || !same(list, way) || !same(spans, over) {
				t.Fatal("an argument was changed", m, n)
			}
		}
	}
}

// The rules: calls in any order are answered as they are one by one; what is refused changes nothing.
func TestDrawnLives(t *testing.T) {
	for seed := range int64(40) {
		from := rand.New(rand.NewSource(seed))
		leaves := leavesOf(60)
		tree := New()
		for range 300 {
			size := tree.Size()
			m, n := from.Intn(size+3)-1, from.Intn(size+3)-1
			switch from.Intn(4) {
			case 0:
				if size < len(leaves) {
					tree.Add(leaves[size])
				}
			case 1:
				hash, ok := tree.Root(n)
				if right := 0 <= n && n <= size; ok != right || ok && !bytes.Equal(hash, slowRoot(leaves[:n])) || !ok && hash != nil {
					t.Fatal("Root", n, size)
				}
			case 2:
				list, ok := tree.Path(m, n)
				if right := 0 <= m && m < n && n <= size; ok != right || ok && !sameList(list, slowPath(leaves[:n], m)) || !ok && list != nil {
					t.Fatal("Path", m, n, size)
				}
			case 3:
				list, ok := tree.Bridge(m, n)
				if right := 0 <= m && m <= n && n <= size; ok != right || ok && !sameList(list, slowBridge(leaves[:n], m)) || !ok && list != nil {
					t.Fatal("Bridge", m, n, size)
				}
			}
		}
	}
}
