package path

import (
	"bytes"
	"reflect"
	"slices"

	"chancery/api"
	"chancery/cert"
	"chancery/name"
	"chancery/scheme"
)

// The slow ones, by the chapter's words: validating notes all that is wrong with all certificates and asks behind it what comes first; building makes all chains there are and sorts them.

func slowSigned(c cert.Cert, kind int, key []byte) bool {
	tbs, e := c.Tbs()
	if e != api.OK {
		return false
	}
	return scheme.Verify(c.Scheme, key, tbs, c.Sig) && c.Scheme == kind
}

func slowNames(c cert.Cert) []name.General {
	var all []name.General
	for _, n := range c.Alt {
		all = append(all, n)
	}
	if len(c.Subject) != 0 {
		all = append(all, dir(c.Subject))
	}
	return all
}

func slowKeeps(n name.General, c cert.Cert) bool {
	for _, limit := range c.Exclude {
		if name.Within(n, limit) {
			return false
		}
	}
	permits, within := 0, 0
	for _, limit := range c.Permit {
		if limit.Kind == n.Kind {
			permits++
		}
		if name.Within(n, limit) {
			within++
		}
	}
	return permits == 0 || within > 0
}

func slowSelf(c cert.Cert) bool { return same(c.Subject, c.Issuer) }

// A fault is an error of the certificate at a place; rank is its place among the questions.
type fault struct {
	place, rank int
	e           api.Errno
}

func slowFaults(chain, roots []cert.Cert, at int) []fault {
	var all []fault
	for i, c := range chain {
		note := func(bad bool, rank int, e api.Errno) {
			if bad {
				all = append(all, fault{i, rank, e})
			}
		}
		if i == len(chain)-1 {
			named, signed := 0, 0
			for _, root := range roots {
				if same(root.Subject, c.Issuer) {
					named++
					if slowSigned(c, root.KeyScheme, root.Key) {
						signed++
					}
				}
			}
			note(named == 0, 1, api.ErrNone)
			note(signed == 0, 2, api.ErrSign)
		} else {
			above := chain[i+1]
			note(!same(above.Subject, c.Issuer), 1, api.ErrChain)
			note(!slowSigned(c, above.KeyScheme, above.Key), 2, api.ErrSign)
		}
		note(at < c.From, 3, api.ErrDate)
		note(at > c.To, 3, api.ErrDate)
		for j := i + 1; j < len(chain); j++ {
			for _, n := range slowNames(c) {
				note(!slowKeeps(n, chain[j]) && (i == 0 || !slowSelf(c)), 4, api.ErrNames)
			}
			steps := 0
			for k := j - 1; k >= i; k-- {
				if !slowSelf(chain[k]) {
					steps++
				}
			}
			note(i != 0 && chain[j].Path != -1 && steps > chain[j].Path, 7, api.ErrCA)
		}
		note(i != 0 && !c.CA, 5, api.ErrCA)
		note(i != 0 && c.Usage != 0 && c.Usage/32%2 == 0, 6, api.ErrUsage)
	}
	return all
}

func slowValidate(chain, roots []cert.Cert, at int) api.Errno {
	if len(chain) < 1 || len(chain) > 6 {
		return api.ErrChain
	}
	faults := slowFaults(chain, roots, at)
	if len(faults) == 0 {
		return api.OK
	}
	return slices.MinFunc(faults, func(a, b fault) int {
		if a.place != b.place {
			return b.place - a.place
		}
		return a.rank - b.rank
	}).e
}

// slowChains are all chains there are, as places in the pool behind the leaf, in the order in which they are tried: a chain ahead of those that go on from it, those in the pool's order.
func slowChains(leaf cert.Cert, pool []cert.Cert) [][]int {
	above := func(c cert.Cert) []int {
		var places []int
		for i, by := range pool {
			if same(by.Subject, c.Issuer) && slowSigned(c, by.KeyScheme, by.Key) {
				places = append(places, i)
			}
		}
		return places
	}
	aboveLeaf, abovePool := above(leaf), make([][]int, len(pool))
	for i, c := range pool {
		abovePool[i] = above(c)
	}
	all := [][]int{{}}
	for done := 0; done < len(all); done++ {
		places, next := all[done], aboveLeaf
		if len(places) > 0 {
			next = abovePool[places[len(places)-1]]
		}
		for _, i := range next {
			if len(places) < 5 && !slices.Contains(places, i) {
				all = append(all, append(slices.Clone(places), i))
			}
		}
	}
	slices.SortFunc(all, slices.Compare[[]int])
	return all
}

// slowBuild tells besides which chain it was, from 1 on.
func slowBuild(leaf cert.Cert, pool, roots []cert.Cert, at int) (answer []cert.Cert, e api.Errno, which int) {
	if len(pool) > 32 || len(roots) > 32 {
		return nil, api.ErrMore, 0
	}
	for n, places := range slowChains(leaf, pool) {
		chain := []cert.Cert{leaf}
		for _, i := range places {
			chain = append(chain, pool[i])
		}
		if n < 64 && slowValidate(chain, roots, at) == api.OK {
			return chain, api.OK, n + 1
		}
	}
	return nil, api.ErrNone, 0
}

// same tells whether two lists or structs are alike, nil and empty lists being one.
func same(a, b any) bool { return sameValue(reflect.ValueOf(a), reflect.ValueOf(b)) }

func sameValue(a, b reflect.Value) bool {
	switch a.Kind() {
	case reflect.Struct:
		for i := range a.NumField() {
			if !sameValue(a.Field(i), b.Field(i)) {
				return false
			}
		}
		return true
	case reflect.Slice:
		if a.Type().Elem().Kind() == reflect.Uint8 {
			return bytes.Equal(a.Bytes(), b.Bytes())
		}
		if a.Len() != b.Len() {
			return false
		}
		for i := range a.Len() {
			if !sameValue(a.Index(i), b.Index(i)) {
				return false
			}
		}
		return true
	}
	return a.Equal(b)
}
