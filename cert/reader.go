package cert

import (
	"chancery/der"
	"chancery/name"
)

// reader takes the kids of a value one by one. Of a value that lacks, or that is another one than it was taken for, it tells anything: see parse.
type reader struct{ kids []der.Value }

func (r *reader) next() der.Value {
	if len(r.kids) == 0 {
		return der.Value{}
	}
	v := r.kids[0]
	r.kids = r.kids[1:]
	return v
}

// last is the last one.
func (r *reader) last() der.Value {
	r.kids = r.kids[max(0, len(r.kids)-1):]
	return r.next()
}

// more tells whether there is one more.
func (r *reader) more() bool { return len(r.kids) > 0 }

// inner reads what stands in the next one.
func (r *reader) inner() *reader { return &reader{r.next().Kids} }

// innerIf reads what stands in the next one, if it has that class and tag, and else nothing.
func (r *reader) innerIf(class, tag int) *reader {
	if !r.more() || r.kids[0].Class != class || r.kids[0].Tag != tag {
		return &reader{}
	}
	return r.inner()
}

// number is a number, enumerated ones too. It may wrap round: such a one is none.
func (r *reader) number() int {
	n := 0
	for _, c := range r.next().Bytes {
		n = n<<8 | int(c)
	}
	return n
}

// bits is what stands behind the first byte.
func (r *reader) bits() []byte {
	b := r.next().Bytes
	if len(b) == 0 {
		return nil
	}
	return b[1:]
}

func (r *reader) bytes() []byte { return r.next().Bytes }

func (r *reader) moment() int {
	t, _ := name.Time(r.next())
	return t
}

func (r *reader) dn() name.DN {
	d, _ := name.ParseDN(r.next())
	return d
}

func (r *reader) oid() string {
	text, _ := name.Oid(r.next())
	return text
}

// scheme is a scheme, or 0, if it is none.
func (r *reader) scheme() int {
	text := r.inner().oid()
	for scheme := 1; scheme <= mostScheme; scheme++ {
		if schemeOid(scheme) == text {
			return scheme
		}
	}
	return 0
}

func (r *reader) key() (scheme int, key []byte) {
	in := r.inner()
	scheme = in.scheme()
	return scheme, in.bits()
}

// names are all that follow.
func (r *reader) names() []name.General {
	var all []name.General
	for r.more() {
		g, _ := name.ParseGeneral(r.next(), false)
		all = append(all, g)
	}
	return all
}

// limits are all that follow, each in a sequence.
func (r *reader) limits() []name.General {
	var all []name.General
	for r.more() {
		g, _ := name.ParseGeneral(r.inner().next(), true)
		all = append(all, g)
	}
	return all
}
