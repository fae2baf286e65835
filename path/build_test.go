package path

import (
	"slices"
	"testing"

	"chancery/api"
	"chancery/cert"
	"chancery/name"
)

// checkBuild holds Build's answer against the certificates that are wanted, and, if the pool is short, against the slow one's. No certificates: ErrNone.
func checkBuild(t *testing.T, what string, want []cert.Cert, leaf cert.Cert, pool, roots []cert.Cert) {
	t.Helper()
	wantE := api.OK
	if len(want) == 0 {
		wantE = api.ErrNone
	}
	got, e := Build(leaf, pool, roots, during)
	if e != wantE || !same(got, want) {
		t.Errorf("%s: %v, %d, not %v, %d", what, serials(got), e, serials(want), wantE)
	}
	if len(pool) > 6 {
		return
	}
	if slow, e, _ := slowBuild(leaf, pool, roots, during); e != wantE || !same(slow, want) {
		t.Errorf("%s: the slow one says %v, %d", what, serials(slow), e)
	}
}

func serials(chain []cert.Cert) []int {
	var all []int
	for _, c := range chain {
		all = append(all, c.Serial)
	}
	return all
}

// numbered is a certificate with a serial by which it is known, signed by the by-th person.
func numbered(serial, n, by int) cert.Cert {
	c := about(n, by)
	c.Serial = serial
	return sign(by, c)
}

// P12.3: chains of all lengths, the pool in any order; none of more than MaxChain.
func TestBuild(t *testing.T) {
	for n := 1; n <= 8; n++ {
		chain, roots := ladder(n, nil)
		want := chain
		if n > api.MaxChain {
			want = nil
		}
		for turn := range n {
			pool := slices.Concat(chain[turn:], chain[:turn])
			checkBuild(t, "turned", want, chain[0], pool, roots)
			slices.Reverse(pool)
			checkBuild(t, "turned back", want, chain[0], pool, roots)
		}
		checkBuild(t, "without a root", nil, chain[0], chain[1:], nil)
		checkBuild(t, "another root", nil, chain[0], chain[1:], []cert.Cert{rootOf(90)})
		if n > 1 {
			checkBuild(t, "one lacks", nil, chain[0], chain[2:], roots)
			checkBuild(t, "nothing in the pool", nil, chain[0], nil, roots)
		}
		if n == 4 {
			checkBuild(t, "a root in between", chain[:3], chain[0], chain, append(slices.Clone(roots), rootOf(3)))
		}
	}
}

// P12.3: the leaf alone goes ahead of all.
func TestLeafAlone(t *testing.T) {
	leaf := issued(0, 1)
	both := []cert.Cert{rootOf(1), rootOf(2)}
	checkBuild(t, "alone", []cert.Cert{leaf}, leaf, []cert.Cert{issued(1, 2), leaf}, both)
	checkBuild(t, "not alone", []cert.Cert{leaf, issued(1, 2)}, leaf, []cert.Cert{issued(1, 2), leaf}, both[1:])
	own := issued(1, 1)
	checkBuild(t, "self-signed", []cert.Cert{own}, own, []cert.Cert{own}, both)
}

// P12.3: the pool's order, depth first.
func TestDepthFirst(t *testing.T) {
	leaf := issued(0, 1)
	roots := []cert.Cert{rootOf(5)}
	short, long, end := numbered(20, 1, 5), numbered(30, 1, 4), numbered(40, 4, 5)
	list := func(all ...cert.Cert) []cert.Cert { return all }
	checkBuild(t, "short one first", list(leaf, short), leaf, list(short, long, end), roots)
	checkBuild(t, "long one first", list(leaf, long, end), leaf, list(long, short, end), roots)
	checkBuild(t, "end first", list(leaf, long, end), leaf, list(end, long, short), roots)
	checkBuild(t, "end and short", list(leaf, short), leaf, list(end, short, long), roots)
	twin := numbered(21, 1, 5)
	checkBuild(t, "twins", list(leaf, short), leaf, list(short, twin), roots)
	checkBuild(t, "twins turned", list(leaf, twin), leaf, list(twin, short), roots)
	// Behind a way that leads nowhere the next one is gone.
	lost := numbered(50, 1, 60)
	checkBuild(t, "lost", list(leaf, long, end), leaf, list(lost, long, numbered(51, 4, 61), end), roots)
}

// P12.3: what isn't named or didn't sign is passed over; what Validate refuses too.
func TestPassedOver(t *testing.T) {
	leaf := issued(0, 1)
	roots := []cert.Cert{rootOf(2)}
	right := issued(1, 2)
	refused := map[string]func(c *cert.Cert){
		"another name":   func(c *cert.Cert) { c.Subject = dn(3) },
		"another key":    func(c *cert.Cert) { c.Key = public(3) },
		"another scheme": func(c *cert.Cert) { c.KeyScheme = 8 },
		"early":          func(c *cert.Cert) { c.From = during + 1 },
		"late":           func(c *cert.Cert) { c.To = during - 1 },
		"no CA":          func(c *cert.Cert) { c.CA = false },
		"no use":         func(c *cert.Cert) { c.Usage = 1 },
		"limits":         func(c *cert.Cert) { c.Exclude = []name.General{dir(nil)} },
		"another issuer": func(c *cert.Cert) { c.Issuer = dn(3) },
		"no serial":      func(c *cert.Cert) { c.Serial = 0 },
	}
	for what, change := range refused {
		c := about(1, 2)
		change(&c)
		c = sign(2, c)
		checkBuild(t, what, nil, leaf, []cert.Cert{c}, roots)
		checkBuild(t, what+" first", []cert.Cert{leaf, right}, leaf, []cert.Cert{c, right}, roots)
	}
	wrong := leaf
	wrong.Sig = nil
	checkBuild(t, "a leaf that isn't signed", nil, wrong, []cert.Cert{right}, roots)
	checkBuild(t, "nothing", nil, cert.Cert{}, make([]cert.Cert, 6), make([]cert.Cert, 6))
}

// P12.3: a place of the pool is in a chain once; the same certificate may be at several places, and the leaf in the pool.
func TestPlaces(t *testing.T) {
	leaf, own, end := issued(0, 1), issued(1, 1), issued(1, 2)
	roots := []cert.Cert{rootOf(2)}
	for n := range 4 {
		pool := append(slices.Repeat([]cert.Cert{own}, n), end)
		want := slices.Concat([]cert.Cert{leaf}, pool)
		checkBuild(t, "its own issuer", want, leaf, pool, roots)
	}
	pool := append(slices.Repeat([]cert.Cert{own}, 5), end)
	want := slices.Concat([]cert.Cert{leaf}, slices.Repeat([]cert.Cert{own}, 4), []cert.Cert{end})
	checkBuild(t, "as many as may be", want, leaf, pool, roots)
	// Two that issued each other, and no way out.
	there, back := issued(1, 3), issued(3, 1)
	checkBuild(t, "round and round", nil, leaf, []cert.Cert{there, back}, roots)
	checkBuild(t, "round and out", []cert.Cert{leaf, there, back, end}, leaf, []cert.Cert{there, back, end}, roots)
	// The leaf stands ahead of the pool: its own certificate there is another one.
	self := issued(1, 1)
	checkBuild(t, "the leaf again", []cert.Cert{self, self, end}, self, []cert.Cert{self, end}, roots)
}

// crowd is a pool in which as many chains as wanted, the leaf alone too, are tried ahead of the right one, which is the last of the pool.
func crowd(ahead int) (leaf cert.Cert, pool []cert.Cert) {
	leaf = issued(0, 1)
	const ends, each = 8, 9 // a way with so many ends is one more chain
	var dead []cert.Cert
	for i := range ends {
		dead = append(dead, numbered(100+i, 2, 80))
	}
	left := ahead - 1
	for ; left >= each; left -= each {
		pool = append(pool, numbered(200+left, 1, 2))
	}
	for ; left > 0; left-- {
		pool = append(pool, numbered(300+left, 1, 81))
	}
	return leaf, append(append(dead, pool...), numbered(7, 1, 5))
}

// P12.3: the 64th chain is tried, the 65th is not.
func TestMostChains(t *testing.T) {
	roots := []cert.Cert{rootOf(5)}
	for ahead := 1; ahead <= 80; ahead++ {
		leaf, pool := crowd(ahead)
		var want []cert.Cert
		if ahead < 64 {
			want = []cert.Cert{leaf, pool[len(pool)-1]}
		}
		checkBuild(t, "crowd", want, leaf, pool, roots)
		if tried := len(slowChains(leaf, pool)); tried != ahead+1 {
			t.Fatalf("%d chains, not %d", tried, ahead+1)
		}
	}
	// Those that aren't named or didn't sign are no chains.
	leaf, pool := crowd(63)
	want := []cert.Cert{leaf, pool[len(pool)-1]}
	other := numbered(400, 1, 5)
	other.Key = public(9)
	for len(pool) < api.MaxPool-1 {
		pool = slices.Concat([]cert.Cert{sign(5, other), numbered(401, 6, 5)}, pool)
	}
	checkBuild(t, "crowd among others", want, leaf, pool, roots)
}

// P12.3: chains of more than MaxChain aren't tried, so none of them is one of the 64.
func TestLongOnesAreNotTried(t *testing.T) {
	leaf, right := issued(0, 1), numbered(7, 1, 70)
	pool := []cert.Cert{numbered(10, 1, 2), numbered(11, 1, 2), numbered(12, 1, 2)}
	for n := 2; n <= 5; n++ {
		pool = append(pool, issued(n, n+1))
	}
	for i := range 20 {
		pool = append(pool, numbered(20+i, 6, 80))
	}
	pool = append(pool, right)
	checkBuild(t, "behind long ones", []cert.Cert{leaf, right}, leaf, pool, []cert.Cert{rootOf(70)})
}

// P12.3: as many as there may be; ErrMore of one more, whatever else there is.
func TestPools(t *testing.T) {
	chain, roots := ladder(2, nil)
	others := slices.Repeat([]cert.Cert{issued(8, 9)}, 40)
	for _, x := range []struct {
		pool, roots int
		want        api.Errno
	}{
		{31, 0, api.OK}, {32, 0, api.ErrMore}, {33, 0, api.ErrMore}, {40, 0, api.ErrMore},
		{0, 31, api.OK}, {0, 32, api.ErrMore}, {0, 40, api.ErrMore}, {31, 31, api.OK}, {32, 32, api.ErrMore},
	} {
		pool := append(slices.Clone(others[:x.pool]), chain[1])
		anchors := append(slices.Clone(others[:x.roots]), roots[0])
		got, e := Build(chain[0], pool, anchors, during)
		if e != x.want || e == api.OK && !same(got, chain) || e != api.OK && len(got) > 0 {
			t.Errorf("%+v: %v, %d", x, serials(got), e)
		}
		alone, e := Build(chain[1], pool, anchors, during)
		if e != x.want || e == api.OK && !same(alone, chain[1:]) {
			t.Errorf("%+v, the leaf alone: %v, %d", x, serials(alone), e)
		}
	}
	if _, e := Build(cert.Cert{}, make([]cert.Cert, 33), nil, during); e != api.ErrMore {
		t.Error(e)
	}
	if _, e := Build(cert.Cert{}, nil, make([]cert.Cert, 33), during); e != api.ErrMore {
		t.Error(e)
	}
}

// P12.3: the time is Validate's.
func TestBuildAt(t *testing.T) {
	leaf, roots := issued(0, 1), []cert.Cert{rootOf(2)}
	early, late := about(1, 2), about(1, 2)
	early.To, late.From = 40, 60
	pool := []cert.Cert{sign(2, early), sign(2, late)}
	for at, want := range map[int]int{10: 0, 40: 0, 41: -1, 59: -1, 60: 1, 100: 1, 9: -1, 101: -1} {
		got, e := Build(leaf, pool, roots, at)
		if want < 0 {
			if e != api.ErrNone || len(got) > 0 {
				t.Errorf("%d: %v, %d", at, serials(got), e)
			}
		} else if e != api.OK || !same(got, []cert.Cert{leaf, pool[want]}) {
			t.Errorf("%d: %v, %d", at, serials(got), e)
		}
	}
}

// P1: where all in the pool issued one another, and each root has the name but not the key, it ends soon all the same.
func TestAllIssuedOneAnother(t *testing.T) {
	own := issued(1, 1)
	root := rootOf(1)
	root.Key = public(2)
	pool, roots := slices.Repeat([]cert.Cert{own}, api.MaxPool), slices.Repeat([]cert.Cert{root}, api.MaxPool)
	checkBuild(t, "all", nil, own, pool, roots)
	many := slices.Repeat([]cert.Cert{numbered(9, 1, 3)}, api.MaxPool)
	checkBuild(t, "many", nil, own, many, roots)
}
