package cert

const (
	listVersion   = 1
	statusRevoked = 1
	mostStatus    = 2
	mostReason    = 10
)

func (l List) signature() (scheme int, sig []byte) { return l.Scheme, l.Sig }

func (l List) thing() part {
	return sequence(
		number(listVersion, 0),
		schemePart(l.Scheme),
		dn(l.Issuer),
		moment(l.This),
		moment(l.Next),
		each(l.Entries, Entry.part).ifAny(sequence),
		tagged(0)(number(l.Number, 0)),
	)
}

func (e Entry) part() part {
	return sequence(number(e.Serial, 0), moment(e.At), enumerated(e.Reason, mostReason))
}

func readList(thing *reader, scheme int, sig []byte) List {
	l := List{Scheme: scheme, Sig: sig}
	thing.next() // the version
	thing.next() // the scheme, which is the signature's
	l.Issuer = thing.dn()
	l.This, l.Next = thing.moment(), thing.moment()
	for all := thing.innerIf(universal, tagSequence); all.more(); {
		in := all.inner()
		l.Entries = append(l.Entries, Entry{in.number(), in.moment(), in.number()})
	}
	l.Number = thing.inner().number()
	return l
}

func (a Answer) signature() (scheme int, sig []byte) { return a.Scheme, a.Sig }

func (a Answer) thing() part {
	var when part
	if a.Status == statusRevoked {
		when = tagged(0)(sequence(moment(a.At), enumerated(a.Reason, mostReason)))
	}
	return sequence(
		hash(a.Key),
		number(a.Serial, 0),
		enumerated(a.Status, mostStatus),
		moment(a.This),
		when,
	)
}

func readAnswer(thing *reader, scheme int, sig []byte) Answer {
	a := Answer{Scheme: scheme, Sig: sig}
	a.Key = thing.bytes()
	a.Serial, a.Status = thing.number(), thing.number()
	a.This = thing.moment()
	when := thing.inner().inner()
	a.At, a.Reason = when.moment(), when.number()
	return a
}
