package merkle

import (
	"bytes"
	"math"
	"testing"
)

// P16.4: the bridges that a tree tells lead from its roots to its roots, and not from or to others.
func TestGrown(t *testing.T) {
	leaves := leavesOf(20)
	tree := treeOf(leaves)
	for n := range len(leaves) + 1 {
		for m := range n + 1 {
			list, first, second := bridge(t, tree, m, n), root(t, tree, m), root(t, tree, n)
			if !Grown(m, n, first, second, list) {
				t.Fatal(m, n)
			}
			for other := range len(leaves) + 1 {
				if other != m && Grown(m, n, root(t, tree, other), second, list) {
					t.Fatal(m, n, "from the root of", other)
				}
				if other != n && m > 0 && Grown(m, n, first, root(t, tree, other), list) {
					t.Fatal(m, n, "to the root of", other)
				}
			}
			if m < n && (Grown(n, m, first, second, list) || Grown(n, m, second, first, list)) {
				t.Fatal(n, m, "turned")
			}
		}
	}
}

// P16.4: what leads from one root to another, asked of other numbers: as it comes to there.
func TestGrownElsewhere(t *testing.T) {
	tree := treeOf(leavesOf(14))
	truths := 0
	for n := range 15 {
		for m := range n + 1 {
			list, first, second := bridge(t, tree, m, n), root(t, tree, m), root(t, tree, n)
			for wide := range 18 {
				for at := 1; at < wide; at++ {
					got, want := Grown(at, wide, first, second, list), risenBridge(at, wide, first, second, list)
					if got != want {
						t.Fatal(m, n, "as", at, wide, got)
					}
					if got && (at != m || wide != n) {
						truths++
					}
				}
			}
		}
	}
	if truths == 0 {
		t.Error("nothing elsewhere was right")
	}
}

// P16.4: of as many leaves, the hashes are one, and nothing leads from one to the other.
func TestGrownNot(t *testing.T) {
	draw := draws(2)
	for _, n := range []int{0, 1, 2, 3, 4, 1000, 1 << 62, math.MaxInt} {
		one, two := draw(), draw()
		if !Grown(n, n, one, bytes.Clone(one), nil) || !Grown(n, n, one, one, [][]byte{}) {
			t.Error(n, "is refused")
		}
		if Grown(n, n, one, two, nil) || Grown(n, n, one, one, [][]byte{one}) || Grown(n, n, one, one, [][]byte{nil}) {
			t.Error(n, "is taken")
		}
		for bit := range 8 * size {
			near := bytes.Clone(one)
			near[bit/8] ^= 1 << (bit % 8)
			if Grown(n, n, one, near, nil) || Grown(n, n, near, one, nil) {
				t.Error(n, "bit", bit)
			}
		}
		for _, wrong := range lengths(one) {
			if Grown(n, n, wrong, wrong, nil) || Grown(n, n, one, wrong, nil) || Grown(n, n, wrong, one, nil) {
				t.Errorf("%d: %d bytes", n, len(wrong))
			}
		}
	}
}

// P16.4: where the numbers are one, the words ask nothing else of them.
func TestGrownBelowNone(t *testing.T) {
	draw := draws(3)
	for _, n := range []int{-1, -2, math.MinInt} {
		one := draw()
		if !Grown(n, n, one, one, nil) || Grown(n, n, one, draw(), nil) || Grown(n, n, one, one, [][]byte{one}) {
			t.Error(n)
		}
	}
}

// P16.4: from no leaves to some nothing leads, and the second hash may be any.
func TestGrownFromNone(t *testing.T) {
	draw := draws(4)
	none := slowRoot(nil)
	for _, n := range []int{1, 2, 3, 8, 1 << 40, math.MaxInt} {
		second := draw()
		if !Grown(0, n, none, second, nil) || !Grown(0, n, none, none, [][]byte{}) {
			t.Error(n, "is refused")
		}
		if Grown(0, n, second, second, nil) || Grown(0, n, second, none, nil) || Grown(0, n, none, second, [][]byte{second}) || Grown(0, n, none, second, [][]byte{nil}) {
			t.Error(n, "is taken")
		}
		for _, wrong := range lengths(none) {
			if Grown(0, n, none, wrong, nil) || Grown(0, n, wrong, second, nil) {
				t.Errorf("%d: %d bytes", n, len(wrong))
			}
		}
		for bit := range 8 * size {
			near := bytes.Clone(none)
			near[bit/8] ^= 1 << (bit % 8)
			if Grown(0, n, near, second, nil) {
				t.Error(n, "bit", bit)
			}
		}
	}
}

// P16.4: never from less than no leaves, never to fewer.
func TestGrownOutside(t *testing.T) {
	none, one := slowRoot(nil), Leaf(nil)
	numbers := []int{math.MinInt, math.MinInt + 1, -3, -2, -1, 0, 1, 2, 3, math.MaxInt - 1, math.MaxInt}
	for _, m := range numbers {
		for _, n := range numbers {
			if m == n || 0 <= m && m < n {
				continue
			}
			for _, first := range [][]byte{none, one} {
				for _, second := range [][]byte{none, one, slowSum(1, one, one), slowSum(1, none, one)} {
					for _, list := range [][][]byte{nil, {one}, {one, one}} {
						if Grown(m, n, first, second, list) {
							t.Fatal(m, n)
						}
					}
				}
			}
		}
	}
}

// stands are the hashes of a bridge as they come, from the end on: whether each stands left of what comes behind it, and whether both hashes are ahead of it, by the chapter's words.
func stands(m, n int, same bool) (sides []bool, told bool) {
	if m == n {
		return nil, !same
	}
	k := slowSplit(n)
	if m <= k {
		sides, told = stands(m, k, same)
		return append(sides, false), told
	}
	sides, told = stands(m-k, n-k, false)
	return append(sides, true), told
}

// both are what a bridge of that form comes to from its first hash.
func both(start []byte, sides []bool, list [][]byte) (old, all []byte) {
	old, all = start, start
	for i, other := range list {
		if sides[i] {
			old, all = slowSum(1, other, old), slowSum(1, other, all)
		} else {
			all = slowSum(1, all, other)
		}
	}
	return old, all
}

// far are pairs 0 < m < n, small ones and such as no tree has.
func far() [][2]int {
	pairs := [][2]int{{1, math.MaxInt}, {2, math.MaxInt}, {3, math.MaxInt}, {math.MaxInt - 1, math.MaxInt}, {math.MaxInt - 2, math.MaxInt}, {1 << 62, math.MaxInt}, {1<<62 - 1, math.MaxInt}, {1<<62 + 1, math.MaxInt},
		{1, 1 << 62}, {1<<62 - 1, 1 << 62}, {1 << 61, 1 << 62}, {1 << 62, 1<<62 + 1}, {0x123456789abcdef, 0x4fedcba987654321}, {0x4fedcba987654320, 0x4fedcba987654321}}
	for n := range 34 {
		for m := 1; m < n; m++ {
			pairs = append(pairs, [2]int{m, n})
		}
	}
	return pairs
}

// P16.4: a bridge that comes to both hashes has the length too, in lists that are longer than any tree.
func TestGrownLength(t *testing.T) {
	draw := draws(5)
	for _, pair := range far() {
		m, n := pair[0], pair[1]
		sides, told := stands(m, n, true)
		start := draw()
		var list [][]byte
		for range sides {
			list = append(list, draw())
		}
		old, all := both(start, sides, list)
		full := func(list [][]byte) [][]byte {
			if told {
				return append([][]byte{start}, list...)
			}
			return list
		}
		if !Grown(m, n, old, all, full(list)) || !risenBridge(m, n, old, all, full(list)) {
			t.Fatal(m, n)
		}
		other := draw()
		for _, more := range [][]byte{slowSum(1, all, other), slowSum(1, other, all), all} {
			for _, less := range [][]byte{slowSum(1, other, old), old} {
				if Grown(m, n, less, more, append(full(list), other)) {
					t.Error(m, n, "one more at the end")
				}
			}
		}
		for i := range list {
			old, all := both(start, sides, list[:i])
			if Grown(m, n, old, all, full(list[:i])) {
				t.Error(m, n, "cut to", i)
			}
		}
		if Grown(m, n, old, all, full(list)[1:]) || Grown(m, n, old, all, append([][]byte{start}, full(list)...)) || Grown(m, n, old, all, append([][]byte{old}, full(list)...)) || Grown(m, n, old, all, nil) || Grown(m, n, old, old, nil) {
			t.Error(m, n, "another beginning")
		}
	}
}

// P16.4: only one of the two hashes is come to.
func TestGrownHalf(t *testing.T) {
	draw := draws(6)
	for _, pair := range far() {
		m, n := pair[0], pair[1]
		sides, told := stands(m, n, true)
		start := draw()
		var list, rest [][]byte
		for range sides {
			rest = append(rest, draw())
		}
		if list = rest; told {
			list = append([][]byte{start}, rest...)
		}
		old, all := both(start, sides, rest)
		if Grown(m, n, old, draw(), list) || Grown(m, n, draw(), all, list) || Grown(m, n, all, old, list) {
			t.Error(m, n)
		}
	}
}

// P16.4: each bit of each hash counts.
func TestGrownBits(t *testing.T) {
	const n = 13
	tree := treeOf(leavesOf(n))
	for m := 1; m < n; m++ {
		list := append(bridge(t, tree, m, n), root(t, tree, m), root(t, tree, n))
		asked := func() bool {
			return Grown(m, n, list[len(list)-2], list[len(list)-1], list[:len(list)-2])
		}
		for i, hash := range list {
			for bit := range 8 * size {
				hash[bit/8] ^= 1 << (bit % 8)
				if asked() {
					t.Fatal(m, "hash", i, "bit", bit)
				}
				hash[bit/8] ^= 1 << (bit % 8)
			}
		}
		if !asked() {
			t.Fatal(m)
		}
	}
}

// P16.4: a hash that hasn't 32 bytes, at each place, also where it comes to both hashes.
func TestGrownHashes(t *testing.T) {
	const n = 11
	tree := treeOf(leavesOf(n))
	for m := 1; m < n; m++ {
		first, second, list := root(t, tree, m), root(t, tree, n), bridge(t, tree, m, n)
		sides, told := stands(m, n, true)
		for _, wrong := range lengths(first) {
			if Grown(m, n, wrong, second, list) || Grown(m, n, first, wrong, list) {
				t.Errorf("%d: %d bytes", m, len(wrong))
			}
			if told {
				continue
			}
			if old, all := both(wrong, sides, list); !risenBridge(m, n, old, all, list) || Grown(m, n, old, all, list) {
				t.Errorf("%d: %d bytes, and what they come to", m, len(wrong))
			}
		}
		for i := range list {
			for _, wrong := range lengths(list[i]) {
				bad := copied(list)
				bad[i] = wrong
				start, rest := first, bad
				if told {
					start, rest = bad[0], bad[1:]
				}
				old, all := both(start, sides, rest)
				if Grown(m, n, first, second, bad) || Grown(m, n, old, all, bad) || !risenBridge(m, n, old, all, bad) {
					t.Errorf("%d: hash %d has %d bytes", m, i, len(wrong))
				}
			}
		}
		if Grown(m, n, first, second, append(copied(list), nil)) {
			t.Error("one more that is empty", m)
		}
	}
}

// P16.4: bytes that are moved from one hash to its neighbour come to the same second hash, and are refused.
func TestGrownMoved(t *testing.T) {
	one, two := Leaf([]byte{1}), Leaf([]byte{2})
	all := append(bytes.Clone(one), two...)
	for cut := range len(all) + 1 {
		first, list := all[:cut], [][]byte{all[cut:]}
		second := slowSum(1, one, two)
		if !risenBridge(1, 2, first, second, list) || Grown(1, 2, first, second, list) != (cut == size) {
			t.Error(cut)
		}
	}
}
