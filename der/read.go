package der

import "chancery/api"

// read reads the value that b begins with, which stands within depth others, and tells what is behind it.
func read(b []byte, depth int) (v Value, rest []byte, e api.Errno) {
	if depth > api.MaxDepth {
		return Value{}, nil, api.ErrDeep
	}
	v, b, e = readForm(b)
	if e != api.OK {
		return Value{}, nil, e
	}
	length, b, e := readLength(b)
	if e != api.OK {
		return Value{}, nil, e
	}
	if length > len(b) {
		return Value{}, nil, api.ErrEnd
	}
	v, e = fill(v, b[:length], depth)
	return v, b[length:], e
}

// readForm reads a value's class, form and tag.
func readForm(b []byte) (v Value, rest []byte, e api.Errno) {
	if len(b) == 0 {
		return Value{}, nil, api.ErrEnd
	}
	v = Value{Class: int(b[0] >> 6), Tag: int(b[0] & longTag), Made: b[0]&madeBit != 0}
	rest = b[1:]
	if v.Tag == longTag {
		v.Tag, rest, e = readTag(rest)
	}
	return v, rest, e
}

// readTag reads a tag that has bytes of its own.
func readTag(b []byte) (tag int, rest []byte, e api.Errno) {
	for k, c := range b {
		if k == 0 && c == moreBit || k == mostGroups {
			return 0, nil, api.ErrTag
		}
		tag = tag<<7 | int(c&^moreBit)
		if c < moreBit {
			if tag < longTag {
				return 0, nil, api.ErrTag
			}
			return tag, b[k+1:], api.OK
		}
	}
	return 0, nil, api.ErrEnd
}

// readLength reads how many bytes a value has.
func readLength(b []byte) (length int, rest []byte, e api.Errno) {
	if len(b) == 0 {
		return 0, nil, api.ErrEnd
	}
	if b[0] < moreBit {
		return int(b[0]), b[1:], api.OK
	}
	count := int(b[0] - moreBit)
	if count == 0 || count > mostCount {
		return 0, nil, api.ErrLength
	}
	b = b[1:]
	if count > len(b) {
		return 0, nil, api.ErrEnd
	}
	for _, c := range b[:count] {
		length = length<<8 | int(c)
	}
	if b[0] == 0 || length < moreBit {
		return 0, nil, api.ErrLength
	}
	return length, b[count:], api.OK
}

// fill is v, of which the form is known, with what stands in it.
func fill(v Value, b []byte, depth int) (Value, api.Errno) {
	r, ok := ruleFor(v)
	if !ok {
		return Value{}, api.ErrTag
	}
	if !v.Made {
		if !r.bytes(b) {
			return Value{}, api.ErrValue
		}
		v.Bytes = append([]byte(nil), b...)
		return v, api.OK
	}
	for len(b) > 0 {
		kid, rest, e := read(b, depth+1)
		if e != api.OK {
			return Value{}, e
		}
		v.Kids = append(v.Kids, kid)
		b = rest
	}
	if !r.kids(v.Kids) {
		return Value{}, api.ErrOrder
	}
	return v, api.OK
}
