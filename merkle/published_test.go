package merkle

import (
	"encoding/hex"
	"testing"
)

// What is published of trees of this form (certificate transparency, RFC 6962), over eight leaves.

var publishedLeaves = []string{"", "00", "10", "2021", "3031", "40414243", "5051525354555657", "606162636465666768696a6b6c6d6e6f"}

var publishedRoots = []string{
	"e3b0c44298fc1c149afbf4c8996fb92427ae41e4649b934ca495991b7852b855",
	"6e340b9cffb37a989ca544e6bb780a2c78901d3fb33738768511a30617afa01d",
	"fac54203e7cc696cf0dfcb42c92a1d9dbaf70ad9e621f4bd8d98662f00e3c125",
	"aeb6bcfe274b70a14fb067a5e5578264db0fa9b51af5e0ba159158f329e06e77",
	"d37ee418976dd95753c1c73862b9398fa2a2cf9b4ff0fdfe8b30cd95209614b7",
	"4e3bbb1f7b478dcfe71fb631631519a3bca12c9aefca1612bfce4c13a86264d4",
	"76e67dadbcdf1e10e1b74ddc608abd2f98dfb16fbce75277b5232a127f2087ef",
	"ddb89be403809e325750d3d263cd78929c2942b7942a34b77e122c9594a74c8c",
	"5dc9da79a70659a9ad559cb701ded9a2ab9d823aad2f4960cfe370eff4604328",
}

type publishedProof struct {
	m, n   int
	hashes []string
}

var publishedPaths = []publishedProof{
	{0, 1, nil},
	{0, 8, []string{
		"96a296d224f285c67bee93c30f8a309157f0daa35dc5b87e410b78630a09cfc7",
		"5f083f0a1a33ca076a95279832580db3e0ef4584bdff1f54c8a360f50de3031e",
		"6b47aaf29ee3c2af9af889bc1fb9254dabd31177f16232dd6aab035ca39bf6e4",
	}},
	{5, 8, []string{
		"bc1a0643b12e4d2d7c77918f44e0f4f79a838b6cf9ec5b5c283e1f4d88599e6b",
		"ca854ea128ed050b41b35ffc1b87b8eb2bde461e9e3b5596ece6b9d5975a0ae0",
		"d37ee418976dd95753c1c73862b9398fa2a2cf9b4ff0fdfe8b30cd95209614b7",
	}},
	{2, 3, []string{"fac54203e7cc696cf0dfcb42c92a1d9dbaf70ad9e621f4bd8d98662f00e3c125"}},
	{1, 5, []string{
		"6e340b9cffb37a989ca544e6bb780a2c78901d3fb33738768511a30617afa01d",
		"5f083f0a1a33ca076a95279832580db3e0ef4584bdff1f54c8a360f50de3031e",
		"bc1a0643b12e4d2d7c77918f44e0f4f79a838b6cf9ec5b5c283e1f4d88599e6b",
	}},
}

var publishedBridges = []publishedProof{
	{1, 1, nil},
	{1, 8, []string{
		"96a296d224f285c67bee93c30f8a309157f0daa35dc5b87e410b78630a09cfc7",
		"5f083f0a1a33ca076a95279832580db3e0ef4584bdff1f54c8a360f50de3031e",
		"6b47aaf29ee3c2af9af889bc1fb9254dabd31177f16232dd6aab035ca39bf6e4",
	}},
	{6, 8, []string{
		"0ebc5d3437fbe2db158b9f126a1d118e308181031d0a949f8dededebc558ef6a",
		"ca854ea128ed050b41b35ffc1b87b8eb2bde461e9e3b5596ece6b9d5975a0ae0",
		"d37ee418976dd95753c1c73862b9398fa2a2cf9b4ff0fdfe8b30cd95209614b7",
	}},
	{2, 5, []string{
		"5f083f0a1a33ca076a95279832580db3e0ef4584bdff1f54c8a360f50de3031e",
		"bc1a0643b12e4d2d7c77918f44e0f4f79a838b6cf9ec5b5c283e1f4d88599e6b",
	}},
}

func bytesOf(t *testing.T, texts []string) [][]byte {
	t.Helper()
	var list [][]byte
	for _, text := range texts {
		b, err := hex.DecodeString(text)
		if err != nil {
			t.Fatal(err)
		}
		list = append(list, b)
	}
	return list
}

// P16.1 to P16.4: the published roots, paths and bridges.
func TestPublished(t *testing.T) {
	leaves, roots := bytesOf(t, publishedLeaves), bytesOf(t, publishedRoots)
	tree := treeOf(leaves)
	for n := range roots {
		if got := root(t, tree, n); !sameList([][]byte{got}, roots[n:n+1]) {
			t.Errorf("Root(%d): %x", n, got)
		}
	}
	for _, p := range publishedPaths {
		want := bytesOf(t, p.hashes)
		if got := path(t, tree, p.m, p.n); !sameList(got, want) || !Included(Leaf(leaves[p.m]), p.m, p.n, want, roots[p.n]) {
			t.Errorf("Path(%d, %d): %x", p.m, p.n, got)
		}
	}
	for _, p := range publishedBridges {
		want := bytesOf(t, p.hashes)
		if got := bridge(t, tree, p.m, p.n); !sameList(got, want) || !Grown(p.m, p.n, roots[p.m], roots[p.n], want) {
			t.Errorf("Bridge(%d, %d): %x", p.m, p.n, got)
		}
	}
}
