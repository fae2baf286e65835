package path

import (
	"iter"
	"slices"

	"chancery/api"
	"chancery/cert"
)

const (
	noPath    = -1 // a Path that is no limit
	usageSign = 32 // the bit of a Usage: its key may sign certificates
)

// A link is a certificate at its place in a chain.
type link struct {
	cert.Cert
	above []cert.Cert // the nearest one first
	first bool
}

// fromEnd are the links of a chain, the last one first.
func fromEnd(chain []cert.Cert) iter.Seq[link] {
	return func(yield func(l link) bool) {
		for i := len(chain) - 1; i >= 0; i-- {
			if !yield(link{Cert: chain[i], above: chain[i+1:], first: i == 0}) {
				return
			}
		}
	}
}

// ask is the first error of a link, where those above it have none.
func (l link) ask(roots []cert.Cert, at int) api.Errno {
	issuers, lack := roots, api.ErrNone
	if len(l.above) > 0 {
		issuers, lack = l.above[:1], api.ErrChain
	}
	switch {
	case !l.any(issuers, names):
		return lack
	case !l.any(issuers, isIssued):
		return api.ErrSign
	case at < l.From || at > l.To:
		return api.ErrDate
	case (l.first || !isSelfIssued(l.Cert)) && !l.keeps():
		return api.ErrNames
	case l.first:
		return api.OK
	}
	return l.askAuthority()
}

// any tells whether a question is true of the link and one of the issuers.
func (l link) any(issuers []cert.Cert, question func(c, by cert.Cert) bool) bool {
	return slices.ContainsFunc(issuers, func(by cert.Cert) bool { return question(l.Cert, by) })
}

// keeps tells whether all its names keep to the limits of all above it.
func (l link) keeps() bool {
	for _, n := range Names(l.Cert) {
		for _, a := range l.above {
			if !Keeps(n, a) {
				return false
			}
		}
	}
	return true
}

// askAuthority is the first error of a link as what issued the one below it.
func (l link) askAuthority() api.Errno {
	switch {
	case !l.CA:
		return api.ErrCA
	case l.Usage != 0 && l.Usage&usageSign == 0:
		return api.ErrUsage
	case l.isTooDeep():
		return api.ErrCA
	}
	return api.OK
}

// isTooDeep tells whether more stand below one above it, down to the link, than that one's Path lets.
func (l link) isTooDeep() bool {
	below := counted(l.Cert)
	for _, a := range l.above {
		if a.Path != noPath && below > a.Path {
			return true
		}
		below += counted(a)
	}
	return false
}

// counted is 1 of a certificate that counts against a Path, else 0.
func counted(c cert.Cert) int {
	if isSelfIssued(c) {
		return 0
	}
	return 1
}
