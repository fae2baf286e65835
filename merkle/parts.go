package merkle

import (
	"bytes"
	"math/bits"
)

// The lists here are the n leaves of a tree from one on, as the chapter's cuts lead to them: that one's place is a multiple of the greatest power of 2 that isn't above n, so that whole lists are subtrees whose hashes are kept.

// over is the hash of a list of one leaf or more, in new memory.
func (t *Tree) over(from, n int) []byte {
	if n&(n-1) == 0 {
		height := bits.Len(uint(n)) - 1
		return bytes.Clone(t.rows[height][from>>height])
	}
	k := split(n)
	return joined(t.over(from, k), t.over(from+k, n-k))
}

// path is the path of the list's leaf m.
func (t *Tree) path(from, m, n int) [][]byte {
	if n == 1 {
		return nil
	}
	k := split(n)
	if m < k {
		return append(t.path(from, m, k), t.over(from+k, n-k))
	}
	return append(t.path(from+k, m-k, n-k), t.over(from, k))
}

// bridge is the bridge from the list's first m, one or more, to all of it; known says that who reads it has the hash of those m.
func (t *Tree) bridge(from, m, n int, known bool) [][]byte {
	if m == n && known {
		return nil
	}
	if m == n {
		return [][]byte{t.over(from, n)}
	}
	k := split(n)
	if m <= k {
		return append(t.bridge(from, m, k, known), t.over(from+k, n-k))
	}
	return append(t.bridge(from+k, m-k, n-k, false), t.over(from, k))
}
