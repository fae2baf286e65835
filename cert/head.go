package cert

func (h Head) signature() (scheme int, sig []byte) { return h.Scheme, h.Sig }

func (h Head) thing() part {
	return sequence(number(h.Size, 0), moment(h.Time), hash(h.Root))
}

func readHead(thing *reader, scheme int, sig []byte) Head {
	return Head{Size: thing.number(), Time: thing.moment(), Root: thing.bytes(), Scheme: scheme, Sig: sig}
}
