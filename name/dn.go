package name

import (
	"slices"
	"unicode/utf8"

	"chancery/api"
	"chancery/der"
)

const mostAttrs = 16 // of a DN

// ParseDN reads a DN.
func ParseDN(v der.Value) (DN, api.Errno) {
	if !isUniversal(v, tagSequence) || len(v.Kids) > mostAttrs || !isRight(v) {
		return nil, api.ErrForm
	}
	var d DN
	named := true
	for _, set := range v.Kids {
		a, tag, ok := attrOf(set)
		if !ok {
			return nil, api.ErrForm
		}
		// A form that is wrong further on goes ahead of this.
		named = named && isText(a.Text) && tag == textTag(a.Text)
		d = append(d, a)
	}
	if !named {
		return nil, api.ErrName
	}
	return d, api.OK
}

// Value writes a DN.
func (d DN) Value() (der.Value, api.Errno) {
	if len(d) > mostAttrs {
		return der.Value{}, api.ErrForm
	}
	oids := make([]der.Value, len(d))
	for i, a := range d {
		oid, ok := OidValue(a.Type)
		if !ok {
			return der.Value{}, api.ErrForm
		}
		oids[i] = oid
	}
	sets := make([]der.Value, len(d))
	for i, a := range d {
		if !isText(a.Text) {
			return der.Value{}, api.ErrName
		}
		text := der.Value{Tag: textTag(a.Text), Bytes: []byte(a.Text)}
		pair := made(tagSequence, []der.Value{oids[i], text})
		sets[i] = made(tagSet, []der.Value{pair})
	}
	return made(tagSequence, sets), api.OK
}

// SameDN tells whether two DNs are alike.
func SameDN(a DN, b DN) bool { return slices.Equal(a, b) }

// attrOf is the attribute that a right set holds, its text's tag, and whether it has the form of one.
func attrOf(set der.Value) (a Attr, tag int, ok bool) {
	if !isUniversal(set, tagSet) || len(set.Kids) != 1 {
		return Attr{}, 0, false
	}
	pair := set.Kids[0]
	if !isUniversal(pair, tagSequence) || len(pair.Kids) != 2 {
		return Attr{}, 0, false
	}
	oid, ok := Oid(pair.Kids[0])
	text := pair.Kids[1]
	if !ok || !isUniversal(text, tagPrintable) && !isUniversal(text, tagUTF8) {
		return Attr{}, 0, false
	}
	return Attr{Type: oid, Text: string(text.Bytes)}, text.Tag, true
}

// isText tells whether a text may be an attribute's.
func isText(text string) bool {
	return text != "" && len(text) <= api.MaxName && utf8.ValidString(text)
}

// textTag is the tag of the one value that an attribute's text is.
func textTag(text string) int {
	if every(text, isPrintable) {
		return tagPrintable
	}
	return tagUTF8
}
