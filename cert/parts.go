package cert

import (
	"slices"
	"strconv"

	"chancery/api"
	"chancery/der"
	"chancery/name"
)

// The classes and universal tags of the values that things are made of.
const (
	universal = 0
	context   = 2

	tagBool       = 1
	tagInteger    = 2
	tagBits       = 3
	tagBytes      = 4
	tagEnumerated = 10
	tagSequence   = 16
)

const (
	mostNumber  = 1<<62 - 1
	mostLattice = 3 // of the schemes, which have oids of their own
	mostScheme  = 9
	hashSize    = 32
)

// part is what stands at a place of a thing: a value, several, or none, where it lacks; or the error of it.
type part struct {
	values []der.Value
	e      api.Errno
}

func one(v der.Value) part { return part{values: []der.Value{v}} }

func wrong(e api.Errno) part { return part{e: e} }

// valued is the part of what layer 10 answers.
func valued(v der.Value, e api.Errno) part {
	if e != api.OK {
		return wrong(e)
	}
	return one(v)
}

// join puts parts one behind the other. The first error holds, but ErrBig, which stands behind all.
func join(parts ...part) part {
	var all part
	for _, p := range parts {
		if all.e == api.OK || all.e == api.ErrBig && p.e != api.OK {
			all.e = p.e
		}
		all.values = append(all.values, p.values...)
	}
	if all.e != api.OK {
		return wrong(all.e)
	}
	return all
}

// each is the part of a list, of at most MaxList, whose items write puts.
func each[T any](list []T, write func(T) part) part {
	if len(list) > api.MaxList {
		return wrong(api.ErrForm)
	}
	parts := make([]part, len(list))
	for i, item := range list {
		parts[i] = write(item)
	}
	return join(parts...)
}

// bytes is the one value of a part in bytes.
func (p part) bytes() ([]byte, api.Errno) {
	if p.e != api.OK {
		return nil, p.e
	}
	return der.Write(p.values[0])
}

// ifAny is what wrap makes of a part, and lacks where that lacks.
func (p part) ifAny(wrap func(parts ...part) part) part {
	if p.e == api.OK && len(p.values) == 0 {
		return p
	}
	return wrap(p)
}

func made(class, tag int, parts []part) part {
	all := join(parts...)
	if all.e != api.OK {
		return all
	}
	return one(der.Value{Class: class, Tag: tag, Made: true, Kids: all.values})
}

func sequence(parts ...part) part { return made(universal, tagSequence, parts) }

// tagged makes the value [tag] of parts.
func tagged(tag int) func(parts ...part) part {
	return func(parts ...part) part { return made(context, tag, parts) }
}

func yes() part { return one(der.Value{Tag: tagBool, Bytes: []byte{0xff}}) }

// number is the integer n, which must be from least on.
func number(n, least int) part {
	if n < least || n > mostNumber {
		return wrong(api.ErrForm)
	}
	return one(der.Value{Tag: tagInteger, Bytes: numberBytes(n)})
}

// enumerated is the choice n, from 0 to most.
func enumerated(n, most int) part {
	if n < 0 || n > most {
		return wrong(api.ErrForm)
	}
	return one(der.Value{Tag: tagEnumerated, Bytes: numberBytes(n)})
}

// numberBytes is a number in as few bytes as can be, the highest bit of the first one a 0.
func numberBytes(n int) []byte {
	b := []byte{byte(n)}
	for n >= 0x80 {
		n >>= 8
		b = slices.Insert(b, 0, byte(n))
	}
	return b
}

// bits is the value of bits that are whole bytes.
func bits(b []byte) part {
	return one(der.Value{Tag: tagBits, Bytes: append([]byte{0}, b...)})
}

// hash is the value of 32 bytes.
func hash(b []byte) part {
	if len(b) != hashSize {
		return wrong(api.ErrForm)
	}
	return one(der.Value{Tag: tagBytes, Bytes: b})
}

func moment(t int) part { return valued(name.TimeValue(t)) }

func dn(d name.DN) part { return valued(d.Value()) }

func general(g name.General) part { return valued(g.Value(false)) }

// limit is the sequence in which a limit stands.
func limit(g name.General) part { return sequence(valued(g.Value(true))) }

// oid is the value of a text that is known to be an oid's.
func oid(text string) part {
	v, _ := name.OidValue(text)
	return one(v)
}

func schemePart(scheme int) part {
	if scheme < 1 || scheme > mostScheme {
		return wrong(api.ErrSet)
	}
	return sequence(oid(schemeOid(scheme)))
}

func keyPart(scheme int, key []byte) part { return sequence(schemePart(scheme), bits(key)) }

// schemeOid is the text of a scheme's oid.
func schemeOid(scheme int) string {
	if scheme <= mostLattice {
		return "2.16.840.1.101.3.4.3." + strconv.Itoa(16+scheme)
	}
	return "2.999.1." + strconv.Itoa(scheme)
}
