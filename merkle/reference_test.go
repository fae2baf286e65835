package merkle

import (
	"bytes"
	"crypto/sha256"
	"math/rand"
	"slices"
	"testing"
)

// The slow ones here follow the chapter's words, with the library's SHA-256; they keep nothing and cut lists of leaves.

func slowSum(mark byte, parts ...[]byte) []byte {
	sum := sha256.Sum256(append([]byte{mark}, bytes.Join(parts, nil)...))
	return sum[:]
}

// slowSplit is the greatest power of 2 below n.
func slowSplit(n int) int {
	k := 1
	for k < n-k {
		k *= 2
	}
	return k
}

func slowRoot(leaves [][]byte) []byte {
	switch len(leaves) {
	case 0:
		none := sha256.Sum256(nil)
		return none[:]
	case 1:
		return slowSum(0, leaves[0])
	}
	k := slowSplit(len(leaves))
	return slowSum(1, slowRoot(leaves[:k]), slowRoot(leaves[k:]))
}

func slowPath(leaves [][]byte, m int) [][]byte {
	if len(leaves) == 1 {
		return nil
	}
	k := slowSplit(len(leaves))
	if m < k {
		return append(slowPath(leaves[:k], m), slowRoot(leaves[k:]))
	}
	return append(slowPath(leaves[k:], m-k), slowRoot(leaves[:k]))
}

func slowBridge(leaves [][]byte, m int) [][]byte {
	if m == 0 {
		return nil
	}
	return slowB(leaves, m, true)
}

func slowB(leaves [][]byte, m int, same bool) [][]byte {
	if m == len(leaves) {
		if same {
			return nil
		}
		return [][]byte{slowRoot(leaves)}
	}
	k := slowSplit(len(leaves))
	if m <= k {
		return append(slowB(leaves[:k], m, same), slowRoot(leaves[k:]))
	}
	return append(slowB(leaves[k:], m-k, false), slowRoot(leaves[:k]))
}

// lefts tells, for each hash of a path of the leaf m in a list of n, in their order, whether it stands on the left.
func lefts(m, n int) []bool {
	if n == 1 {
		return nil
	}
	k := slowSplit(n)
	if m < k {
		return append(lefts(m, k), false)
	}
	return append(lefts(m-k, n-k), true)
}

// end is what hashes that stand so come to from the first one; there are as many hashes as sides.
func end(hash []byte, sides []bool, path [][]byte) []byte {
	for i, other := range path {
		if sides[i] {
			hash = slowSum(1, other, hash)
		} else {
			hash = slowSum(1, hash, other)
		}
	}
	return hash
}

// The other verifiers here go from the numbers' lowest bits up, as RFC 9162 (2.1.3.2 and 2.1.4.2) does; they ask no lengths of hashes.

func risenPath(leaf []byte, m, n int, path [][]byte, root []byte) bool {
	at, last := m, n-1
	hash := leaf
	for _, other := range path {
		if last == 0 {
			return false
		}
		if at%2 == 1 || at == last {
			hash = slowSum(1, other, hash)
			for at%2 == 0 && at != 0 {
				at, last = at/2, last/2
			}
		} else {
			hash = slowSum(1, hash, other)
		}
		at, last = at/2, last/2
	}
	return last == 0 && bytes.Equal(hash, root)
}

// risenBridge is for 0 < m < n.
func risenBridge(m, n int, first, second []byte, bridge [][]byte) bool {
	if len(bridge) == 0 {
		return false
	}
	if m&(m-1) == 0 {
		bridge = append([][]byte{first}, bridge...)
	}
	at, last := m-1, n-1
	for at%2 == 1 {
		at, last = at/2, last/2
	}
	old, all := bridge[0], bridge[0]
	for _, other := range bridge[1:] {
		if last == 0 {
			return false
		}
		if at%2 == 1 || at == last {
			old, all = slowSum(1, other, old), slowSum(1, other, all)
			for at%2 == 0 && at != 0 {
				at, last = at/2, last/2
			}
		} else {
			all = slowSum(1, all, other)
		}
		at, last = at/2, last/2
	}
	return last == 0 && bytes.Equal(old, first) && bytes.Equal(all, second)
}

// leavesOf are n leaves of many lengths, no two alike.
func leavesOf(n int) [][]byte {
	var list [][]byte
	for i := range n {
		leaf := []byte{byte(i), byte(i >> 8)}
		list = append(list, append(leaf, bytes.Repeat([]byte{byte(7 * i)}, i*i%150)...))
	}
	return list
}

func treeOf(leaves [][]byte) *Tree {
	t := New()
	for _, leaf := range leaves {
		t.Add(leaf)
	}
	return t
}

func sameList(a, b [][]byte) bool { return slices.EqualFunc(a, b, bytes.Equal) }

// copied is a list in new memory, with more hashes behind it if there are some.
func copied(list [][]byte, more ...[]byte) [][]byte {
	var out [][]byte
	for _, b := range append(slices.Clone(list), more...) {
		out = append(out, bytes.Clone(b))
	}
	return out
}

// root is that of the first n, path and bridge likewise; the test ends, if they are refused.
func root(t *testing.T, tree *Tree, n int) []byte {
	t.Helper()
	hash, ok := tree.Root(n)
	if !ok {
		t.Fatal("Root", n)
	}
	return hash
}

func path(t *testing.T, tree *Tree, m, n int) [][]byte {
	t.Helper()
	list, ok := tree.Path(m, n)
	if !ok {
		t.Fatal("Path", m, n)
	}
	return list
}

func bridge(t *testing.T, tree *Tree, m, n int) [][]byte {
	t.Helper()
	list, ok := tree.Bridge(m, n)
	if !ok {
		t.Fatal("Bridge", m, n)
	}
	return list
}

// draws are hashes that stand for anything, the same at each run.
func draws(seed int64) func() []byte {
	from := rand.New(rand.NewSource(seed))
	return func() []byte {
		b := make([]byte, size)
		from.Read(b)
		return b
	}
}
