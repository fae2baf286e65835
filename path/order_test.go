package path

import (
	"testing"

	"chancery/api"
	"chancery/cert"
	"chancery/name"
)

// The questions that a certificate is asked, in their order, as bits of what is wrong with it.
const (
	wrongIssuer = 1 << iota
	wrongSign
	wrongDate
	wrongNames
	wrongCA
	wrongUsage
	wrongPath
	allWrong
)

// faulty is a ladder of n; of the certificate at a place that is wrong which wrong tells.
func faulty(n int, wrong map[int]int) (chain, roots []cert.Cert) {
	chain, roots = ladder(n, func(c []cert.Cert) {
		for place, what := range wrong {
			if what&wrongIssuer != 0 {
				c[place].Issuer = dn(90)
			}
			if what&wrongDate != 0 {
				c[place].To = during - 1
			}
			if what&wrongNames != 0 && place < n-1 {
				c[place].Alt = []name.General{machine("a.b")}
				c[n-1].Exclude = []name.General{machine("b")}
			}
			if what&wrongUsage != 0 {
				c[place].Usage = 1
			}
			if what&wrongPath != 0 && place < n-1 {
				c[place+1].Path = 0
			}
		}
		for place, what := range wrong {
			if what&wrongCA != 0 {
				c[place].CA, c[place].Path = false, -1
			}
		}
	})
	for place, what := range wrong {
		if what&wrongSign != 0 {
			chain[place] = sign(91, chain[place])
		}
	}
	return chain, roots
}

// firstOf is the first error of what is wrong at a place.
func firstOf(n, place, what int) api.Errno {
	inner, below := place > 0, place < n-1
	switch {
	case what&wrongIssuer != 0 && !below:
		return api.ErrNone
	case what&wrongIssuer != 0:
		return api.ErrChain
	case what&wrongSign != 0:
		return api.ErrSign
	case what&wrongDate != 0:
		return api.ErrDate
	case what&wrongNames != 0 && below:
		return api.ErrNames
	case what&wrongCA != 0 && inner:
		return api.ErrCA
	case what&wrongUsage != 0 && inner:
		return api.ErrUsage
	case what&wrongPath != 0 && inner && below:
		return api.ErrCA
	}
	return api.OK
}

// P12.2: of all that is wrong with one certificate the first is told.
func TestOrderAtOnePlace(t *testing.T) {
	for n := 1; n <= 3; n++ {
		for place := range n {
			for what := range allWrong {
				chain, roots := faulty(n, map[int]int{place: what})
				check(t, firstOf(n, place, what), chain, roots, during)
			}
		}
	}
}

// P12.2: of two certificates that are wrong the one further up is told of.
func TestOrderOfPlaces(t *testing.T) {
	const n = 4
	for upper := range n {
		for lower := range upper {
			for one := 1; one < allWrong; one *= 2 {
				for other := 1; other < allWrong; other *= 2 {
					want := firstOf(n, upper, one)
					if want == api.OK {
						want = firstOf(n, lower, other)
					}
					chain, roots := faulty(n, map[int]int{upper: one, lower: other})
					check(t, want, chain, roots, during)
				}
			}
		}
	}
}

// P12.2: a length that is wrong goes ahead of all.
func TestLengthFirst(t *testing.T) {
	for what := range allWrong {
		chain, roots := faulty(7, map[int]int{6: what})
		check(t, api.ErrChain, chain, roots, during)
		check(t, api.ErrChain, chain, nil, during)
	}
}
