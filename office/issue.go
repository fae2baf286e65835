package office

import (
	"slices"

	"chancery/api"
	"chancery/cert"
	"chancery/name"
	"chancery/path"
	"chancery/scheme"
	"chancery/store"
)

// What stands in a certificate that is issued.
const (
	noPath      = -1
	issuedUsage = 1
)

// Issue issues a certificate, and commits other changes with it.
func (o *Office) Issue(request []byte, now int, draw []byte, also ...store.Change) ([]byte, api.Errno) {
	if len(draw) != drawSize {
		return nil, api.ErrKey
	}
	root := o.Root()
	if now < root.From || now > root.To {
		return nil, api.ErrTime
	}
	r, e := proven(request)
	if e != api.OK {
		return nil, e
	}
	c := o.draft(root, r, now)
	if e := mayBeIssued(c, root); e != api.OK {
		return nil, e
	}
	c.Sig, e = o.signed(c, draw)
	if e != api.OK {
		return nil, e
	}
	b, e := inBytes(c)
	if e != api.OK {
		return nil, e
	}
	if e := o.commit(c.Serial, b, also...); e != api.OK {
		return nil, e
	}
	return b, api.OK
}

// proven is a request that its own key signed.
func proven(request []byte) (cert.Request, api.Errno) {
	r, e := cert.ParseRequest(request)
	if e != api.OK {
		return cert.Request{}, e
	}
	tbs, e := r.Tbs()
	if e != api.OK {
		return cert.Request{}, e
	}
	if r.Scheme != r.KeyScheme || !scheme.Verify(r.KeyScheme, r.Key, tbs, r.Sig) {
		return cert.Request{}, api.ErrProof
	}
	return r, api.OK
}

// draft is the certificate that a request asks for, unsigned.
func (o *Office) draft(root cert.Cert, r cert.Request, now int) cert.Cert {
	return cert.Cert{
		Serial: o.Count() + 1, Scheme: root.Scheme,
		Issuer: root.Subject, Subject: r.Subject,
		From: now, To: min(now+o.life(), root.To),
		KeyScheme: r.KeyScheme, Key: r.Key,
		Path: noPath, Usage: issuedUsage,
		Alt: r.Alt,
	}
}

// mayBeIssued tells why a certificate may not be signed, or OK.
func mayBeIssued(c, root cert.Cert) api.Errno {
	leaves := func(n name.General) bool { return !path.Keeps(n, root) }
	names := path.Names(c)
	switch {
	case len(names) == 0:
		return api.ErrProfile
	case slices.ContainsFunc(names, leaves):
		return api.ErrNames
	case c.Serial > api.MaxMessage:
		return api.ErrSerial
	}
	// How long it would be is asked ahead of the signing, which uses a number up.
	c.Sig = make([]byte, scheme.Size(c.Scheme))
	_, e := inBytes(c)
	return e
}

// signed is the signature of a certificate.
func (o *Office) signed(c cert.Cert, draw []byte) ([]byte, api.Errno) {
	tbs, e := c.Tbs()
	if e != api.OK {
		return nil, e
	}
	return o.vault.Sign(caName, tbs, draw)
}

// commit commits a certificate and the changes that go with it, as one.
func (o *Office) commit(serial int, b []byte, also ...store.Change) api.Errno {
	return o.store.Commit(append([]store.Change{certChange(serial, b)}, also...))
}

// inBytes is a certificate in bytes that the store has room for.
func inBytes(c cert.Cert) ([]byte, api.Errno) {
	b, e := c.Encode()
	if e != api.OK {
		return nil, e
	}
	if len(b) > api.MaxValue {
		return nil, api.ErrBig
	}
	return b, api.OK
}
