package path

import (
	"crypto/x509"
	"math/rand"
	"slices"
	"testing"
	"time"

	"chancery/api"
	"chancery/cert"
	"chancery/name"
	"chancery/scheme"
)

// The library's X.509 verifies chains of schemes 1 to 3. It knows no self-issued ones and no limits of DNs, and asks more of its roots; names and limits are drawn so that it takes them as layer 10 does.

func plainName(r *rand.Rand) name.General {
	return pick(r,
		machine("a.example"), machine("m.b.example"), machine("x.m.b.example"),
		name.General{Kind: 1, Text: "u@a.example"}, name.General{Kind: 1, Text: "u@m.b.example"},
		name.General{Kind: 6, Text: "s://a.example/c"}, name.General{Kind: 6, Text: "s://m.b.example/c"},
		name.General{Kind: 7, Text: "\x0a\x01\x02\x03"}, name.General{Kind: 7, Text: "\x0b\x01\x02\x03"},
	)
}

func plainLimit(r *rand.Rand) name.General {
	return pick(r,
		machine("a.example"), machine("b.example"), machine("m.b.example"),
		name.General{Kind: 1, Text: "a.example"}, name.General{Kind: 1, Text: ".b.example"},
		name.General{Kind: 6, Text: "a.example"}, name.General{Kind: 6, Text: ".b.example"},
		name.General{Kind: 7, Text: "\x0a\x00\x00\x00\xff\x00\x00\x00"}, name.General{Kind: 7, Text: "\x0b\x01\x00\x00\xff\xff\x00\x00"},
	)
}

// plainCert is one of a chain that the library can verify, most often right.
func plainCert(r *rand.Rand, n int, key *scheme.Signer) cert.Cert {
	c := about(n, n+1)
	c.KeyScheme, c.Key = key.Scheme(), key.Public()
	c.Alt = []name.General{plainName(r)}
	if n == 0 {
		c.CA = chance(r, 2)
	}
	switch r.Intn(16) {
	case 0, 1, 2:
		c.Permit = drawnList(r, plainLimit)
	case 3, 4, 5:
		c.Exclude = drawnList(r, plainLimit)[:1]
	case 6:
		c.CA = false
	case 7, 8:
		if c.CA {
			c.Path = r.Intn(3)
		}
	case 9:
		c.Usage = pick(r, 1, 32, 96, 2)
	case 10:
		c.From = pick(r, during, during+1)
	case 11:
		c.To = pick(r, during, during-1)
	}
	return c
}

func libraryRead(t *testing.T, c cert.Cert) *x509.Certificate {
	t.Helper()
	x, err := x509.ParseCertificate(must(c.Encode()))
	if err != nil {
		t.Fatalf("%+v: %v", c, err)
	}
	return x
}

// libraryTakes tells whether the library finds its way from the first of a chain over the others to the root.
func libraryTakes(t *testing.T, chain []cert.Cert, root cert.Cert) bool {
	t.Helper()
	roots, between := x509.NewCertPool(), x509.NewCertPool()
	roots.AddCert(libraryRead(t, root))
	for _, c := range chain[1:] {
		between.AddCert(libraryRead(t, c))
	}
	_, err := libraryRead(t, chain[0]).Verify(x509.VerifyOptions{
		Roots: roots, Intermediates: between, CurrentTime: time.Unix(during, 0), KeyUsages: []x509.ExtKeyUsage{x509.ExtKeyUsageAny},
	})
	return err == nil
}

// P12.2 and P12.3: what the library takes is validated and built, and nothing else.
func TestLibraryAgrees(t *testing.T) {
	r := rand.New(rand.NewSource(5))
	var keys []*scheme.Signer
	for n := range 6 {
		seed := make([]byte, 32)
		seed[0] = byte(n)
		keys = append(keys, must(scheme.Make(1+n%3, seed)))
	}
	seen := map[api.Errno]int{}
	for range 300 {
		n := 1 + r.Intn(5)
		var chain []cert.Cert
		for i := range n {
			c := signBy(keys[i+1], plainCert(r, i, keys[i]))
			if chance(r, 30) {
				c.Sig[r.Intn(len(c.Sig))] ^= 1
			}
			chain = append(chain, c)
		}
		root := about(n, n)
		root.KeyScheme, root.Key = keys[n].Scheme(), keys[n].Public()
		root = signBy(keys[n], root)
		e := Validate(chain, []cert.Cert{root}, during)
		if libraryTakes(t, chain, root) != (e == api.OK) {
			t.Fatalf("%+v: %d, and the library says otherwise", chain, e)
		}
		pool := slices.Clone(chain[1:])
		r.Shuffle(len(pool), func(i, j int) { pool[i], pool[j] = pool[j], pool[i] })
		got, f := Build(chain[0], pool, []cert.Cert{root}, during)
		if (e == api.OK) != (f == api.OK) || f == api.OK && !same(got, chain) {
			t.Fatalf("%+v: %v, %d", chain, serials(got), f)
		}
		seen[e]++
	}
	for _, e := range []api.Errno{api.OK, api.ErrSign, api.ErrDate, api.ErrNames, api.ErrCA, api.ErrUsage} {
		if seen[e] < 5 {
			t.Errorf("%d came %d times alone", e, seen[e])
		}
	}
}
