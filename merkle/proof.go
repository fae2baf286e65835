package merkle

import "bytes"

// Included verifies a path.
func Included(leaf []byte, m int, n int, path [][]byte, root []byte) bool {
	if m < 0 || m >= n || !areHashes(leaf, root) || !areHashes(path...) {
		return false
	}
	end, ok := climb(leaf, m, n, path)
	return ok && bytes.Equal(end, root)
}

// climb is the hash of n leaves that a path comes to from the hash of leaf m; false, if it hasn't the length.
func climb(leaf []byte, m, n int, path [][]byte) ([]byte, bool) {
	if n == 1 {
		return leaf, len(path) == 0
	}
	rest, last, ok := cutLast(path)
	if !ok {
		return nil, false
	}
	k := split(n)
	if m < k {
		left, ok := climb(leaf, m, k, rest)
		return joined(left, last), ok
	}
	right, ok := climb(leaf, m-k, n-k, rest)
	return joined(last, right), ok
}

// Grown verifies a bridge.
func Grown(m int, n int, first []byte, second []byte, bridge [][]byte) bool {
	switch {
	case !areHashes(first, second), !areHashes(bridge...):
		return false
	case m == n:
		return bytes.Equal(first, second) && len(bridge) == 0
	case m < 0, m > n:
		return false
	case m == 0:
		return isNone(first) && len(bridge) == 0
	}
	old, all, ok := cross(m, n, first, bridge)
	return ok && bytes.Equal(old, first) && bytes.Equal(all, second)
}

// cross is the hashes of the first m of n leaves and of all that a bridge comes to; false, if it hasn't the length. The hash of those m is taken where it is known, nil where the bridge must tell it.
func cross(m, n int, known []byte, bridge [][]byte) (old, all []byte, ok bool) {
	if m == n && known != nil {
		return known, known, len(bridge) == 0
	}
	rest, last, ok := cutLast(bridge)
	if !ok {
		return nil, nil, false
	}
	if m == n {
		return last, last, len(rest) == 0
	}
	k := split(n)
	if m <= k {
		old, all, ok = cross(m, k, known, rest)
		return old, joined(all, last), ok
	}
	old, all, ok = cross(m-k, n-k, nil, rest)
	return joined(last, old), joined(last, all), ok
}

// cutLast cuts the last hash off; false, if there is none.
func cutLast(list [][]byte) (rest [][]byte, last []byte, ok bool) {
	if len(list) == 0 {
		return nil, nil, false
	}
	return list[:len(list)-1], list[len(list)-1], true
}
