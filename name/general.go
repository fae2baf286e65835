package name

import (
	"chancery/api"
	"chancery/der"
)

// The Kinds of general names.
const (
	kindMail    = 1
	kindMachine = 2
	kindDir     = 4
	kindURI     = 6
	kindIP      = 7
)

// ParseGeneral reads a name.
func ParseGeneral(v der.Value, limit bool) (General, api.Errno) {
	if !hasForm(v) || !isRight(v) {
		return General{}, api.ErrForm
	}
	g := General{Kind: v.Tag, Text: string(v.Bytes)}
	if v.Made {
		d, e := ParseDN(v.Kids[0])
		if e != api.OK {
			return General{}, api.ErrName
		}
		g.Dir = d
	}
	if !g.isNamed(limit) {
		return General{}, api.ErrName
	}
	return g, api.OK
}

// Value writes a name.
func (g General) Value(limit bool) (der.Value, api.Errno) {
	if !isKind(g.Kind) || g.Kind != kindDir && len(g.Dir) > 0 || g.Kind == kindDir && g.Text != "" {
		return der.Value{}, api.ErrForm
	}
	if !g.isNamed(limit) {
		return der.Value{}, api.ErrName
	}
	if g.Kind != kindDir {
		return der.Value{Class: context, Tag: g.Kind, Bytes: []byte(g.Text)}, api.OK
	}
	dir, e := g.Dir.Value()
	if e != api.OK {
		return der.Value{}, api.ErrName
	}
	return der.Value{Class: context, Tag: g.Kind, Made: true, Kids: []der.Value{dir}}, api.OK
}

func isKind(kind int) bool {
	switch kind {
	case kindMail, kindMachine, kindDir, kindURI, kindIP:
		return true
	}
	return false
}

// hasForm tells whether a value has the form of a Kind: a DN's with one kid, the others' not made.
func hasForm(v der.Value) bool {
	if v.Class != context || !isKind(v.Tag) {
		return false
	}
	if v.Tag == kindDir {
		return v.Made && len(v.Kids) == 1
	}
	return !v.Made
}

// isNamed tells whether a name's text is as its Kind has it, and of a DN whether it may be as empty as it is.
func (g General) isNamed(limit bool) bool {
	switch g.Kind {
	case kindDir:
		return limit || len(g.Dir) > 0
	case kindIP:
		return isAddress(g.Text, limit)
	}
	return (limit || g.Text != "") && len(g.Text) <= api.MaxName && every(g.Text, isASCII)
}

// isAddress tells whether bytes are an IP address, as a limit with its mask.
func isAddress(text string, limit bool) bool {
	switch {
	case !limit:
		return len(text) == 4 || len(text) == 16
	case len(text) == 8 || len(text) == 32:
		return isMask(text[len(text)/2:])
	}
	return false
}

// isMask tells whether the bits that are 1 stand ahead of those that are 0.
func isMask(mask string) bool {
	ended := false
	for i := range 8 * len(mask) {
		one := mask[i/8]>>(7-i%8)&1 == 1
		if one && ended {
			return false
		}
		ended = !one
	}
	return true
}
