package path

import (
	"math"
	"math/rand"
	"slices"
	"testing"

	"chancery/api"
	"chancery/cert"
	"chancery/name"
)

// chance is true once in n times.
func chance(r *rand.Rand, n int) bool { return r.Intn(n) == 0 }

func pick[T any](r *rand.Rand, list ...T) T { return list[r.Intn(len(list))] }

func drawnName(r *rand.Rand) name.General {
	return pick(r,
		machine("a.b"), machine("c.b"), machine("b"), machine("C.D"),
		name.General{Kind: 1, Text: "x@a.b"}, name.General{Kind: 1, Text: "y@c.d"},
		name.General{Kind: 6, Text: "s://a.b/"}, name.General{Kind: 6, Text: "none"},
		name.General{Kind: 7, Text: "\x01\x02\x03\x04"}, name.General{Kind: 7, Text: "0123456789abcdef"},
		dir(dn(r.Intn(4))), dir(append(dn(1), dn(2)...)),
	)
}

func drawnLimit(r *rand.Rand) name.General {
	return pick(r,
		machine("b"), machine("a.b"), machine(""), machine("d"),
		name.General{Kind: 1, Text: ".b"}, name.General{Kind: 1, Text: "x@a.b"}, name.General{Kind: 1},
		name.General{Kind: 6, Text: "a.b"}, name.General{Kind: 6, Text: ".d"},
		name.General{Kind: 7, Text: "\x01\x02\x00\x00\xff\xff\x00\x00"}, name.General{Kind: 7, Text: "\x01\x02\x03\x04\xff\xff\xff\xff"},
		dir(dn(r.Intn(4))), dir(nil),
	)
}

func drawnList(r *rand.Rand, draw func(r *rand.Rand) name.General) []name.General {
	var all []name.General
	for range 1 + r.Intn(3) {
		all = append(all, draw(r))
	}
	return all
}

// bend changes something of c that matters to a chain; most often it is still right.
func bend(r *rand.Rand, c *cert.Cert) {
	switch r.Intn(9) {
	case 0:
		c.From = pick(r, 0, during, during+1)
	case 1:
		c.To = pick(r, during-1, during, 200)
	case 2:
		c.CA, c.Path = false, -1
	case 3:
		if c.CA {
			c.Path = pick(r, 0, 1, 2, 3)
		}
	case 4:
		c.Usage = pick(r, 1, 32, 33, 64, 96, 511)
	case 5, 6:
		c.Alt = drawnList(r, drawnName)
	case 7:
		c.Permit = drawnList(r, drawnLimit)
	case 8:
		c.Exclude = drawnList(r, drawnLimit)
	}
}

// spoilt is a certificate that isn't signed any more, most often.
func spoilt(r *rand.Rand, c cert.Cert) cert.Cert {
	switch r.Intn(4) {
	case 0:
		c.Serial++
	case 1:
		c.Scheme = 8
	case 2:
		c.Sig = pick(r, nil, c.Sig[1:], append(slices.Clone(c.Sig), 0))
	case 3:
		c.Issuer, c.Subject = dn(r.Intn(7)), dn(r.Intn(7))
	}
	return c
}

// drawnChain is a ladder with something changed in it.
func drawnChain(r *rand.Rand) (chain, roots []cert.Cert) {
	n := 1 + r.Intn(api.MaxChain)
	if chance(r, 30) {
		n = pick(r, 0, 7)
	}
	chain, roots = ladder(n, func(c []cert.Cert) {
		for i := n - 1; i >= 0; i-- {
			if chance(r, 4) {
				selfIssue(c, i)
			}
		}
		for range min(n, r.Intn(4)) {
			bend(r, &c[r.Intn(n)])
		}
	})
	if n > 0 && chance(r, 5) {
		i, j := r.Intn(n), r.Intn(n)
		if chance(r, 3) {
			chain[i], chain[j] = chain[j], chain[i]
		} else {
			chain[i] = spoilt(r, chain[i])
		}
	}
	for range r.Intn(3) {
		roots = slices.Insert(roots, r.Intn(len(roots)+1), spoilt(r, sign(n, about(n, n))))
	}
	return chain, roots
}

// P12.2: drawn chains, against the slow one.
func TestChainsDrawn(t *testing.T) {
	r := rand.New(rand.NewSource(1))
	seen := map[api.Errno]int{}
	for range 3000 {
		chain, roots := drawnChain(r)
		at := pick(r, during, during, during, 0, 9, 10, 100, 101, -1, math.MaxInt, math.MinInt)
		got, want := Validate(chain, roots, at), slowValidate(chain, roots, at)
		if got != want {
			t.Fatalf("%+v at %d: %d, not %d", chain, at, got, want)
		}
		seen[got]++
	}
	for _, e := range []api.Errno{api.OK, api.ErrSign, api.ErrDate, api.ErrCA, api.ErrUsage, api.ErrNames, api.ErrChain, api.ErrNone} {
		if seen[e] < 20 {
			t.Errorf("%d came %d times alone", e, seen[e])
		}
	}
}

// drawnPool are certificates among few persons, who issued one another in many ways; one person more, the root, issued some of them.
func drawnPool(r *rand.Rand) (leaf cert.Cert, pool, roots []cert.Cert) {
	people := pick(r, 1, 2, 2+r.Intn(4), 2+r.Intn(4))
	draw := func(n int) cert.Cert {
		by := pick(r, n+1, n+1, 1+r.Intn(people))
		c := about(n, by)
		c.Serial = 1 + r.Intn(3)
		if chance(r, 4) {
			bend(r, &c)
		}
		if c = sign(by, c); chance(r, 20) {
			c = spoilt(r, c)
		}
		return c
	}
	leaf = draw(r.Intn(2))
	for range pick(r, 7, r.Intn(8)) {
		pool = append(pool, draw(1+r.Intn(people)))
	}
	roots = []cert.Cert{rootOf(people + 1)}
	if chance(r, 10) {
		roots[0] = rootOf(1 + r.Intn(people))
	}
	return leaf, pool, roots
}

// P12.3: drawn pools, against the slow one.
func TestPoolsDrawn(t *testing.T) {
	r := rand.New(rand.NewSource(2))
	lengths, late, over := map[int]int{}, 0, 0
	for range 1200 {
		leaf, pool, roots := drawnPool(r)
		got, e := Build(leaf, pool, roots, during)
		want, wantE, which := slowBuild(leaf, pool, roots, during)
		if e != wantE || !same(got, want) {
			t.Fatalf("%+v, %+v, %+v: %v, %d, not %v, %d", leaf, pool, roots, serials(got), e, serials(want), wantE)
		}
		lengths[len(got)]++
		if which > 5 {
			late++
		}
		if e == api.ErrNone && len(slowChains(leaf, pool)) > 64 {
			over++
		}
		if e == api.OK && Validate(got, roots, during) != api.OK {
			t.Fatal("a chain that isn't right")
		}
	}
	for n := range 7 {
		if lengths[n] < 5 {
			t.Errorf("%d chains of %d", lengths[n], n)
		}
	}
	if late < 20 || over < 10 {
		t.Errorf("%d were found late, %d gave up at 64", late, over)
	}
}

// P12.1: drawn names and limits, against the slow ones.
func TestNamesDrawn(t *testing.T) {
	r := rand.New(rand.NewSource(3))
	kept := map[bool]int{}
	for range 20000 {
		c := cert.Cert{Subject: pick(r, nil, dn(1), name.DN{})}
		if chance(r, 2) {
			c.Alt = drawnList(r, drawnName)
		}
		if chance(r, 2) {
			c.Permit = drawnList(r, drawnLimit)
		}
		if chance(r, 3) {
			c.Exclude = drawnList(r, drawnLimit)
		}
		if got := Names(c); !same(got, slowNames(c)) {
			t.Fatalf("%+v: %v", c, got)
		}
		n := pick(r, drawnName(r), drawnLimit(r))
		if Keeps(n, c) != slowKeeps(n, c) {
			t.Fatalf("%+v in %+v", n, c)
		}
		kept[Keeps(n, c)]++
	}
	if kept[true] < 1000 || kept[false] < 1000 {
		t.Error(kept)
	}
}
