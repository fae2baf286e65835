package cert

const requestVersion = 0

func (r Request) signature() (scheme int, sig []byte) { return r.Scheme, r.Sig }

func (r Request) thing() part {
	return sequence(
		number(requestVersion, 0),
		dn(r.Subject),
		keyPart(r.KeyScheme, r.Key),
		each(r.Alt, general).ifAny(tagged(0)),
	)
}

func readRequest(thing *reader, scheme int, sig []byte) Request {
	r := Request{Scheme: scheme, Sig: sig}
	thing.next() // the version
	r.Subject = thing.dn()
	r.KeyScheme, r.Key = thing.key()
	r.Alt = thing.inner().names()
	return r
}
