package cert

import (
	"chancery/api"
	"chancery/der"
)

// The oids of the extensions.
const (
	oidBasic  = "2.5.29.19"
	oidUsage  = "2.5.29.15"
	oidAlt    = "2.5.29.17"
	oidLimits = "2.5.29.30"
)

const (
	version   = 2  // of certificates
	noPath    = -1 // a Path that lacks
	usageBits = 9
)

func (c Cert) signature() (scheme int, sig []byte) { return c.Scheme, c.Sig }

func (c Cert) thing() part {
	return sequence(
		tagged(0)(number(version, 0)),
		number(c.Serial, 1),
		schemePart(c.Scheme),
		dn(c.Issuer),
		sequence(moment(c.From), moment(c.To)),
		dn(c.Subject),
		keyPart(c.KeyScheme, c.Key),
		c.extensions().ifAny(sequence).ifAny(tagged(3)),
	)
}

func (c Cert) extensions() part {
	permit, exclude := each(c.Permit, limit), each(c.Exclude, limit)
	limits := join(permit.ifAny(tagged(0)), exclude.ifAny(tagged(1)))
	return join(
		extension(oidBasic, yes(), c.basic()),
		extension(oidUsage, yes(), usage(c.Usage)),
		extension(oidAlt, part{}, each(c.Alt, general).ifAny(sequence)),
		extension(oidLimits, yes(), limits.ifAny(sequence)),
	)
}

// extension is the extension that holds what in bytes, and lacks where that lacks.
func extension(text string, critical, what part) part {
	return what.ifAny(func(...part) part {
		return sequence(oid(text), critical, wrapped(what))
	})
}

// wrapped is the value of bytes that are a part's value in bytes.
func wrapped(what part) part {
	b, e := what.bytes()
	if e != api.OK {
		return wrong(e)
	}
	return one(der.Value{Tag: tagBytes, Bytes: b})
}

// basic is what an authority's certificate tells of it.
func (c Cert) basic() part {
	switch {
	case !c.CA && c.Path != noPath:
		return wrong(api.ErrForm)
	case !c.CA:
		return part{}
	case c.Path == noPath:
		return sequence(yes())
	}
	return sequence(yes(), number(c.Path, 0))
}

// usage is the value of the bits of a Usage, which lacks if none is set.
func usage(set int) part {
	if set < 0 || set >= 1<<usageBits {
		return wrong(api.ErrForm)
	}
	if set == 0 {
		return part{}
	}
	b := []byte{0}
	for k := range usageBits {
		if set>>k&1 == 0 {
			continue
		}
		for len(b) <= 1+k/8 {
			b = append(b, 0)
		}
		b[1+k/8] |= 0x80 >> (k % 8)
		b[0] = byte(7 - k%8)
	}
	return one(der.Value{Tag: tagBits, Bytes: b})
}

func readCert(thing *reader, scheme int, sig []byte) Cert {
	c := Cert{Scheme: scheme, Path: noPath, Sig: sig}
	thing.next() // the version
	c.Serial = thing.number()
	thing.next() // the scheme, which is the signature's
	c.Issuer = thing.dn()
	times := thing.inner()
	c.From, c.To = times.moment(), times.moment()
	c.Subject = thing.dn()
	c.KeyScheme, c.Key = thing.key()
	for all := thing.inner().inner(); all.more(); {
		c.readExtension(all.inner())
	}
	return c
}

// readExtension sets what an extension tells.
func (c *Cert) readExtension(r *reader) {
	oid := r.oid()
	v, _ := der.Read(r.last().Bytes)
	in := &reader{v.Kids}
	switch oid {
	case oidBasic:
		c.CA = true
		in.next() // true
		if in.more() {
			c.Path = in.number()
		}
	case oidUsage:
		c.Usage = readUsage(v.Bytes)
	case oidAlt:
		c.Alt = in.names()
	case oidLimits:
		c.Permit = in.innerIf(context, 0).limits()
		c.Exclude = in.innerIf(context, 1).limits()
	}
}

// readUsage is the Usage whose bits these are.
func readUsage(b []byte) int {
	set := 0
	for k := range usageBits {
		if at := 1 + k/8; at < len(b) && b[at]&(0x80>>(k%8)) != 0 {
			set |= 1 << k
		}
	}
	return set
}
