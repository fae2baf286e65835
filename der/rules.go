package der

import (
	"slices"
	"unicode/utf8"
)

// A rule says what a value must be: made or not, and what its Bytes or its Kids, which are right themselves, must be.
type rule struct {
	made  bool
	bytes func(b []byte) bool
	kids  func(kids []Value) bool
}

// ruleFor is the rule that v stands under by its class, tag and form, and whether there is one.
func ruleFor(v Value) (rule, bool) {
	if v.Class != universal {
		return rule{made: v.Made, bytes: anyBytes, kids: anyKids}, true
	}
	r, ok := universalRule(v.Tag)
	return r, ok && r.made == v.Made
}

// universalRule is the rule of a universal tag, and whether there is one.
func universalRule(tag int) (rule, bool) {
	switch tag {
	case 1:
		return rule{bytes: isBool}, true
	case 2, 10:
		return rule{bytes: isInteger}, true
	case 3:
		return rule{bytes: isBits}, true
	case 4:
		return rule{bytes: anyBytes}, true
	case 5:
		return rule{bytes: isNull}, true
	case 6:
		return rule{bytes: isOid}, true
	case 12:
		return rule{bytes: utf8.Valid}, true
	case 16:
		return rule{made: true, kids: anyKids}, true
	case 17:
		return rule{made: true, kids: neverFall}, true
	case 19:
		return rule{bytes: isPrintable}, true
	case 22:
		return rule{bytes: isASCII}, true
	case 23:
		return rule{bytes: isShortTime}, true
	case 24:
		return rule{bytes: isLongTime}, true
	}
	return rule{}, false
}

func anyBytes([]byte) bool { return true }

func anyKids([]Value) bool { return true }

func neverFall(kids []Value) bool { return slices.IsSortedFunc(kids, compare) }

func isBool(b []byte) bool { return len(b) == 1 && (b[0] == 0 || b[0] == 0xff) }

func isInteger(b []byte) bool {
	if len(b) < 2 {
		return len(b) == 1
	}
	// A first byte that says no more than the sign of the second is one too many.
	return !(b[0] == 0 && b[1] < 0x80 || b[0] == 0xff && b[1] >= 0x80)
}

func isBits(b []byte) bool {
	if len(b) == 0 || b[0] > 7 {
		return false
	}
	if len(b) == 1 {
		return b[0] == 0
	}
	unused := byte(1)<<b[0] - 1
	return b[len(b)-1]&unused == 0
}

func isNull(b []byte) bool { return len(b) == 0 }

func isOid(b []byte) bool {
	begins := true
	for _, c := range b {
		if begins && c == moreBit {
			return false
		}
		begins = c < moreBit
	}
	return len(b) > 0 && begins
}

func isPrintable(b []byte) bool {
	return !slices.ContainsFunc(b, func(c byte) bool { return !Printable(c) })
}

func isASCII(b []byte) bool {
	return !slices.ContainsFunc(b, func(c byte) bool { return c >= utf8.RuneSelf })
}
