package path

import (
	"slices"

	"chancery/cert"
	"chancery/name"
)

// copyChain is a chain in new memory.
func copyChain(chain []cert.Cert) []cert.Cert {
	all := make([]cert.Cert, len(chain))
	for i, c := range chain {
		all[i] = copyCert(c)
	}
	return all
}

func copyCert(c cert.Cert) cert.Cert {
	c.Issuer, c.Subject = slices.Clone(c.Issuer), slices.Clone(c.Subject)
	c.Key, c.Sig = slices.Clone(c.Key), slices.Clone(c.Sig)
	c.Alt, c.Permit, c.Exclude = copyNames(c.Alt), copyNames(c.Permit), copyNames(c.Exclude)
	return c
}

func copyNames(list []name.General) []name.General {
	all := slices.Clone(list)
	for i := range all {
		all[i].Dir = slices.Clone(all[i].Dir)
	}
	return all
}
