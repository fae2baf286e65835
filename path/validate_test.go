package path

import (
	"math"
	"slices"
	"testing"

	"chancery/api"
	"chancery/cert"
	"chancery/name"
)

// check validates a chain, and holds the answer against the slow one's too.
func check(t *testing.T, want api.Errno, chain, roots []cert.Cert, at int) {
	t.Helper()
	if got := Validate(chain, roots, at); got != want {
		t.Errorf("%d certificates: %d, not %d", len(chain), got, want)
	}
	if slow := slowValidate(chain, roots, at); slow != want {
		t.Errorf("%d certificates: the slow one says %d, not %d", len(chain), slow, want)
	}
}

// checkLadder validates a ladder of n with an edit.
func checkLadder(t *testing.T, want api.Errno, n int, edit func(c []cert.Cert)) {
	t.Helper()
	chain, roots := ladder(n, edit)
	check(t, want, chain, roots, during)
}

// eachPlace calls visit for every place of chains of all lengths.
func eachPlace(visit func(n, place int)) {
	for n := 1; n <= api.MaxChain; n++ {
		for place := range n {
			visit(n, place)
		}
	}
}

// P12.2: from 1 to MaxChain certificates, each issued by the next.
func TestLengths(t *testing.T) {
	for n := range 10 {
		want := api.OK
		if n < 1 || n > api.MaxChain {
			want = api.ErrChain
		}
		checkLadder(t, want, n, nil)
	}
	check(t, api.ErrChain, nil, nil, during)
	check(t, api.ErrChain, []cert.Cert{}, []cert.Cert{rootOf(1)}, during)
	check(t, api.ErrChain, make([]cert.Cert, 7), nil, during)
	check(t, api.ErrChain, make([]cert.Cert, 5000), nil, during)
	check(t, api.ErrNone, make([]cert.Cert, 6), nil, during)
}

// P12.2: the examples.
func TestExamples(t *testing.T) {
	checkLadder(t, api.OK, 2, func(c []cert.Cert) { c[1].Path = 0 })
	checkLadder(t, api.ErrCA, 3, func(c []cert.Cert) { c[2].Path = 0 })
	checkLadder(t, api.ErrNames, 2, func(c []cert.Cert) {
		c[0].Alt = []name.General{machine("a.evil")}
		c[1].Permit = []name.General{machine("b.example")}
	})
	checkLadder(t, api.OK, 2, func(c []cert.Cert) {
		c[0].Alt = []name.General{machine("a.b.example")}
		c[1].Permit = []name.General{machine("b.example")}
	})
}

// P12.2: right chains of all schemes, each one's key signing with the next.
func TestAllSchemes(t *testing.T) {
	for n := range 9 {
		leaf, mid := about(0, 1), about(1, 2)
		by, root := signers()[1+n], signers()[1+(n+1)%9]
		mid.KeyScheme, mid.Key = by.Scheme(), by.Public()
		anchor := cert.Cert{Subject: dn(2), KeyScheme: root.Scheme(), Key: root.Public()}
		chain := []cert.Cert{signBy(by, leaf), signBy(root, mid)}
		check(t, api.OK, chain, []cert.Cert{anchor}, during)
		check(t, api.ErrSign, []cert.Cert{signBy(root, leaf), chain[1]}, []cert.Cert{anchor}, during)
		anchor.KeyScheme = by.Scheme()
		check(t, api.ErrSign, chain, []cert.Cert{anchor}, during)
	}
}

// P12.2: ErrNone without a root of the last one's Issuer, ErrChain where the one above has another Subject.
func TestIssuers(t *testing.T) {
	eachPlace(func(n, place int) {
		want := api.ErrChain
		if place == n-1 {
			want = api.ErrNone
		}
		others := []name.DN{
			nil, dn(90), append(dn(place+1), dn(place+1)...),
			{{Type: "2.5.4.10", Text: dn(place + 1)[0].Text}},
			{{Type: "2.5.4.3", Text: "P" + dn(place + 1)[0].Text[1:]}},
		}
		for _, other := range others {
			checkLadder(t, want, n, func(c []cert.Cert) { c[place].Issuer = other })
		}
	})
	chain, roots := ladder(3, nil)
	check(t, api.ErrNone, chain, nil, during)
	check(t, api.ErrNone, chain, []cert.Cert{rootOf(0), rootOf(1), rootOf(2)}, during)
	check(t, api.OK, chain, []cert.Cert{rootOf(0), rootOf(2), roots[0]}, during)
	check(t, api.ErrNone, chain[:2], roots, during)
	check(t, api.ErrChain, []cert.Cert{chain[0], chain[2]}, roots, during)
	check(t, api.ErrNone, []cert.Cert{chain[2], chain[1], chain[0]}, roots, during)
	// Roots issue the last one alone: another one may not be theirs.
	check(t, api.ErrChain, []cert.Cert{issued(0, 3), chain[2]}, roots, during)
	// Neither may it be that of one further up.
	check(t, api.ErrChain, []cert.Cert{issued(0, 2), chain[1], chain[2]}, roots, during)
	// Subjects and Issuers that are empty are alike as well.
	none, anchor := about(0, 1), rootOf(1)
	none.Issuer, anchor.Subject = nil, name.DN{}
	check(t, api.OK, []cert.Cert{sign(1, none)}, []cert.Cert{anchor}, during)
}

// P12.2: ErrSign at each place.
func TestSignatures(t *testing.T) {
	eachPlace(func(n, place int) {
		chain, roots := ladder(n, nil)
		for _, wrong := range []func(c cert.Cert) cert.Cert{
			func(c cert.Cert) cert.Cert { c.Serial += 100; return c },
			func(c cert.Cert) cert.Cert { c.Sig = nil; return c },
			func(c cert.Cert) cert.Cert { return sign(90, c) },
			func(c cert.Cert) cert.Cert { return sign(place, c) },
			func(c cert.Cert) cert.Cert { c.Scheme = 8; return sign(place+1, c) },
			func(c cert.Cert) cert.Cert { c.Serial = 0; return sign(place+1, c) },
			func(c cert.Cert) cert.Cert { c.Path = -2; return sign(place+1, c) },
			func(c cert.Cert) cert.Cert { c.To = api.MaxTime + 1; return sign(place+1, c) },
		} {
			changed := slices.Clone(chain)
			changed[place] = wrong(changed[place])
			check(t, api.ErrSign, changed, roots, during)
		}
	})
}

// P12.2: of several roots with one Subject it is enough that one signed.
func TestRoots(t *testing.T) {
	chain, roots := ladder(2, nil)
	right := roots[0]
	wrongKey, wrongScheme, wrongName := right, right, right
	wrongKey.Key = public(90)
	wrongScheme.KeyScheme = 8
	wrongName.Subject = dn(90)
	for place := range 5 {
		many := []cert.Cert{wrongKey, wrongName, wrongScheme, wrongKey}
		check(t, api.OK, chain, slices.Insert(many, place, right), during)
	}
	check(t, api.ErrSign, chain, []cert.Cert{wrongKey, wrongName, wrongScheme}, during)
	check(t, api.ErrSign, chain, []cert.Cert{wrongName, wrongScheme}, during)
	check(t, api.ErrNone, chain, []cert.Cert{wrongName}, during)
	// More than a pool may have are no error here.
	many := slices.Repeat([]cert.Cert{wrongName}, 200)
	check(t, api.OK, chain, append(many, right), during)
}

// P12.2: of a root only its Subject, KeyScheme and Key count.
func TestRootsAreTrusted(t *testing.T) {
	chain, roots := ladder(3, func(c []cert.Cert) { c[0].Alt = []name.General{machine("a.b")} })
	for _, change := range []func(c *cert.Cert){
		func(c *cert.Cert) { c.Serial, c.Scheme = -1, 77 },
		func(c *cert.Cert) { c.Issuer = dn(90) },
		func(c *cert.Cert) { c.From, c.To = during+1, during-1 },
		func(c *cert.Cert) { c.CA, c.Path = true, 0 },
		func(c *cert.Cert) { c.CA, c.Path = false, -5 },
		func(c *cert.Cert) { c.Usage = 1 },
		func(c *cert.Cert) { c.Permit = []name.General{machine("c"), dir(dn(90))} },
		func(c *cert.Cert) { c.Exclude = []name.General{machine(""), dir(nil)} },
		func(c *cert.Cert) { c.Alt, c.Sig = make([]name.General, 300), make([]byte, 70000) },
	} {
		root := roots[0]
		change(&root)
		check(t, api.OK, chain, []cert.Cert{root}, during)
	}
	// A root may stand in the chain too: there it is one like the others.
	own := issued(3, 3)
	check(t, api.OK, append(slices.Clone(chain), own), roots, during)
	check(t, api.OK, []cert.Cert{own}, roots, during)
	own.To = 20
	check(t, api.ErrDate, append(slices.Clone(chain), sign(3, own)), roots, during)
}

// P12.2: ErrDate just outside From and To, at each place.
func TestDates(t *testing.T) {
	eachPlace(func(n, place int) {
		chain, roots := ladder(n, func(c []cert.Cert) { c[place].From, c[place].To = 30, 60 })
		for at, want := range map[int]api.Errno{
			29: api.ErrDate, 30: api.OK, 31: api.OK, 59: api.OK, 60: api.OK, 61: api.ErrDate,
			0: api.ErrDate, -1: api.ErrDate, math.MinInt: api.ErrDate, math.MaxInt: api.ErrDate,
		} {
			check(t, want, chain, roots, at)
		}
		checkLadder(t, api.OK, n, func(c []cert.Cert) { c[place].From, c[place].To = during, during })
		checkLadder(t, api.ErrDate, n, func(c []cert.Cert) { c[place].From, c[place].To = during+1, during-1 })
	})
	whole, roots := ladder(1, func(c []cert.Cert) { c[0].From, c[0].To = 0, api.MaxTime })
	for at, want := range map[int]api.Errno{-1: api.ErrDate, 0: api.OK, api.MaxTime: api.OK, api.MaxTime + 1: api.ErrDate} {
		check(t, want, whole, roots, at)
	}
}

// P12.2: names must keep to the limits of each one above, not to their own, not to those below.
func TestLimits(t *testing.T) {
	named := []name.General{machine("x.y"), machine("a.b")}
	refusals := map[string]func(c *cert.Cert){
		"Permit":         func(c *cert.Cert) { c.Permit = []name.General{machine("y")} },
		"Exclude":        func(c *cert.Cert) { c.Exclude = []name.General{machine("c"), machine("b")} },
		"Permit of both": func(c *cert.Cert) { c.Permit, c.Exclude = []name.General{machine("")}, []name.General{machine("a.b")} },
	}
	for what, refuse := range refusals {
		eachPlace(func(n, place int) {
			for limit := range n {
				want := api.OK
				if limit > place {
					want = api.ErrNames
				}
				chain, roots := ladder(n, func(c []cert.Cert) {
					c[place].Alt = named
					refuse(&c[limit])
				})
				if got := Validate(chain, roots, during); got != want {
					t.Errorf("%s at %d of %d, names at %d: %d, not %d", what, limit, n, place, got, want)
				}
			}
		})
	}
}

// P12.2: the Subject is a name too, if it isn't empty.
func TestSubjectsKeep(t *testing.T) {
	for subject, want := range map[string]api.Errno{"in": api.OK, "out": api.ErrNames, "": api.OK} {
		checkLadder(t, want, 2, func(c []cert.Cert) {
			c[0].Subject = nil
			if subject != "" {
				c[0].Subject = append(common(subject), common("x")...)
			}
			c[1].Permit = []name.General{dir(common("in"))}
		})
	}
	checkLadder(t, api.ErrNames, 3, func(c []cert.Cert) { c[2].Exclude = []name.General{dir(dn(1))} })
	checkLadder(t, api.ErrNames, 3, func(c []cert.Cert) { c[2].Exclude = []name.General{dir(dn(0))} })
	checkLadder(t, api.OK, 3, func(c []cert.Cert) { c[2].Exclude = []name.General{dir(dn(2)), dir(dn(3))} })
}

// P12.2: a self-issued one isn't asked for its names, unless it is the first.
func TestSelfIssuedNames(t *testing.T) {
	eachPlace(func(n, place int) {
		if place == n-1 {
			return // nothing is above it
		}
		edit := func(self bool) func(c []cert.Cert) {
			return func(c []cert.Cert) {
				c[place].Alt = []name.General{machine("a.b")}
				c[n-1].Exclude = []name.General{machine("b")}
				if self {
					selfIssue(c, place)
				}
			}
		}
		want := api.OK
		if place == 0 {
			want = api.ErrNames
		}
		checkLadder(t, want, n, edit(true))
		checkLadder(t, api.ErrNames, n, edit(false))
	})
	// Its limits hold as those of others do.
	checkLadder(t, api.ErrNames, 3, func(c []cert.Cert) {
		c[0].Alt = []name.General{machine("a.b")}
		c[1].Exclude = []name.General{machine("b")}
		selfIssue(c, 1)
	})
}

// P12.2: all but the first must be CAs, whose Usage is 0 or has the bit 32.
func TestAuthorities(t *testing.T) {
	eachPlace(func(n, place int) {
		notCA, notUsage := api.ErrCA, api.ErrUsage
		if place == 0 {
			notCA, notUsage = api.OK, api.OK
		}
		checkLadder(t, notCA, n, func(c []cert.Cert) { c[place].CA = false })
		checkLadder(t, notUsage, n, func(c []cert.Cert) { c[place].Usage = 64 })
		checkLadder(t, api.OK, n, func(c []cert.Cert) { c[place].Usage = 96 })
	})
	for usage := range 512 {
		want := api.ErrUsage
		if usage == 0 || usage&32 != 0 {
			want = api.OK
		}
		checkLadder(t, want, 2, func(c []cert.Cert) { c[1].Usage = usage })
	}
	checkLadder(t, api.OK, 2, func(c []cert.Cert) { c[0].CA, c[0].Path = true, 0 })
	// A self-issued one must be a CA too.
	checkLadder(t, api.ErrCA, 3, func(c []cert.Cert) { c[1].CA = false; selfIssue(c, 1) })
	checkLadder(t, api.ErrUsage, 3, func(c []cert.Cert) { c[1].Usage = 1; selfIssue(c, 1) })
}

// P12.2: each Path at each place, whichever ones are self-issued. The first one never counts.
func TestPaths(t *testing.T) {
	const n = api.MaxChain
	seen := map[api.Errno]int{}
	for selves := range 1 << n {
		for place := 1; place < n; place++ {
			counted := 0
			for below := 1; below < place; below++ {
				counted += 1 - selves>>below&1
			}
			for path := range 6 {
				chain, roots := ladder(n, func(c []cert.Cert) {
					for i := n - 1; i >= 0; i-- {
						if selves>>i&1 == 1 {
							selfIssue(c, i)
						}
					}
					c[place].Path = path
				})
				want := api.OK
				if counted > path {
					want = api.ErrCA
				}
				if got := Validate(chain, roots, during); got != want {
					t.Fatalf("self-issued %b, Path %d at %d: %d, not %d", selves, path, place, got, want)
				}
				seen[want]++
			}
		}
	}
	if seen[api.OK] == 0 || seen[api.ErrCA] == 0 {
		t.Error(seen)
	}
	// One further down may not widen what one further up narrows, nor the other way round.
	for _, x := range []struct {
		upper, lower int
		want         api.Errno
	}{{3, 2, api.OK}, {3, -1, api.OK}, {-1, 2, api.OK}, {2, 9, api.ErrCA}, {9, 1, api.ErrCA}, {2, -1, api.ErrCA}, {-1, 1, api.ErrCA}, {1<<62 - 1, 1<<62 - 1, api.OK}} {
		checkLadder(t, x.want, 5, func(c []cert.Cert) { c[4].Path, c[3].Path = x.upper, x.lower })
	}
}
