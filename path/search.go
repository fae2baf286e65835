package path

import (
	"iter"

	"chancery/api"
	"chancery/cert"
)

// A search goes through the chains that can be made of a pool.
type search struct {
	pool  []cert.Cert
	taken []bool // which of the pool are in the chain
	yield func(chain []cert.Cert) bool
}

// chains are the leaf alone, and depth first all that lead on from it through the pool. A chain is right only until the next one is made.
func chains(leaf cert.Cert, pool []cert.Cert) iter.Seq[[]cert.Cert] {
	return func(yield func(chain []cert.Cert) bool) {
		s := search{pool: pool, taken: make([]bool, len(pool)), yield: yield}
		s.from([]cert.Cert{leaf})
	}
}

// from tells a chain and all that are longer, and whether more are wanted.
func (s search) from(chain []cert.Cert) bool {
	if !s.yield(chain) {
		return false
	}
	if len(chain) == api.MaxChain {
		return true
	}
	last := chain[len(chain)-1]
	for i, by := range s.pool {
		if s.taken[i] || !isIssued(last, by) {
			continue
		}
		s.taken[i] = true
		if !s.from(append(chain, by)) {
			return false
		}
		s.taken[i] = false
	}
	return true
}
