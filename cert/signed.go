package cert

import (
	"bytes"

	"chancery/api"
	"chancery/der"
)

// signed is what is signed: its thing, and the signature over that.
type signed interface {
	thing() part
	signature() (scheme int, sig []byte)
}

func tbs(x signed) ([]byte, api.Errno) { return x.thing().bytes() }

func encode(x signed) ([]byte, api.Errno) {
	scheme, sig := x.signature()
	return sequence(x.thing(), schemePart(scheme), bits(sig)).bytes()
}

// parse reads a signed thing. What read takes for one is right just if it is written as b again, so read need not look for anything that is wrong.
func parse[X signed](b []byte, read func(thing *reader, scheme int, sig []byte) X) (X, api.Errno) {
	var none X
	v, e := der.Read(b)
	if e != api.OK {
		return none, e
	}
	r := &reader{v.Kids}
	thing, scheme, sig := r.inner(), r.scheme(), r.bits()
	x := read(thing, scheme, sig)
	again, e := encode(x)
	if e != api.OK || !bytes.Equal(again, b) {
		return none, api.ErrForm
	}
	return x, api.OK
}
