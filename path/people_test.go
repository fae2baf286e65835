package path

import (
	"slices"
	"strconv"
	"sync"

	"chancery/api"
	"chancery/cert"
	"chancery/lms"
	"chancery/name"
	"chancery/scheme"
)

// The tests' keys are layer 7's smallest, which scheme 9 verifies as it does its own: there are many signatures to make.

const testScheme = 9

func must[T any](x T, e api.Errno) T {
	if e != api.OK {
		panic(e)
	}
	return x
}

func common(text string) name.DN { return name.DN{{Type: "2.5.4.3", Text: text}} }

// dn is the name of the n-th person.
func dn(n int) name.DN { return common("p" + strconv.Itoa(n)) }

// secret is the key of the n-th person.
func secret(n int) lms.Key {
	seed := make([]byte, 32)
	seed[0], seed[1] = byte(n), byte(n>>8)
	return lms.Key{Levels: 1, Height: 1, Width: 1, Identity: seed[:16], Seed: seed}
}

// A made is what one person's key was asked for: its public key (of no message), or a signature.
type made struct {
	who int
	msg string
}

var (
	madeLock sync.Mutex
	madeOnce = map[made][]byte{}
)

// once is what was made at the first time it was asked for, in new memory.
func once(what made, work func() ([]byte, api.Errno)) []byte {
	madeLock.Lock()
	defer madeLock.Unlock()
	if madeOnce[what] == nil {
		madeOnce[what] = must(work())
	}
	return slices.Clone(madeOnce[what])
}

// public is the public key of the n-th person.
func public(n int) []byte {
	return once(made{who: n}, func() ([]byte, api.Errno) { return lms.Public(secret(n)) })
}

// sign is c with the signature of the n-th person, whether its Issuer is that one or not.
func sign(n int, c cert.Cert) cert.Cert {
	tbs, e := c.Tbs()
	if e != api.OK {
		tbs = nil // of such a one no signature is right
	}
	c.Sig = once(made{n, "signs " + string(tbs)}, func() ([]byte, api.Errno) { return lms.Sign(secret(n), 0, tbs) })
	return c
}

// about is a certificate of the n-th person, issued by the by-th, not signed yet.
func about(n, by int) cert.Cert {
	return cert.Cert{
		Serial: 1 + n, Scheme: testScheme, Issuer: dn(by), Subject: dn(n), From: 10, To: 100,
		KeyScheme: testScheme, Key: public(n), CA: true, Path: -1,
	}
}

// issued is a certificate of the n-th person, signed by the by-th.
func issued(n, by int) cert.Cert { return sign(by, about(n, by)) }

// rootOf has of a root only what counts.
func rootOf(n int) cert.Cert {
	return cert.Cert{Subject: dn(n), KeyScheme: testScheme, Key: public(n)}
}

// during is a time at which all of them hold.
const during = 50

// ladder is a right chain of n certificates, the persons 0 to n - 1, each issued by the next one, the last one by the root, person n. Edit changes them ahead of being signed.
func ladder(n int, edit func(c []cert.Cert)) (chain, roots []cert.Cert) {
	for i := range n {
		chain = append(chain, about(i, i+1))
	}
	if edit != nil {
		edit(chain)
	}
	for i := range chain {
		chain[i] = sign(i+1, chain[i])
	}
	return chain, []cert.Cert{rootOf(n)}
}

// selfIssue makes the certificate at i self-issued, and names it as the issuer of the one below it.
func selfIssue(c []cert.Cert, i int) {
	c[i].Subject = c[i].Issuer
	if i > 0 {
		c[i-1].Issuer = c[i].Subject
	}
}

func machine(text string) name.General { return name.General{Kind: 2, Text: text} }

func dir(d name.DN) name.General { return name.General{Kind: 4, Dir: d} }

// signers are right ones of all schemes, made once.
var signers = sync.OnceValue(func() map[int]*scheme.Signer {
	all := map[int]*scheme.Signer{}
	for n := 1; n <= 9; n++ {
		seed := make([]byte, 32)
		seed[0] = byte(n)
		all[n] = must(scheme.Make(n, seed))
	}
	return all
})

// signBy is c, of the signer's Scheme and signed by it.
func signBy(s *scheme.Signer, c cert.Cert) cert.Cert {
	c.Scheme = s.Scheme()
	c.Sig = must(s.Sign(0, must(c.Tbs()), make([]byte, 32)))
	return c
}
