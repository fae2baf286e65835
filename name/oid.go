package name

import (
	"strconv"
	"strings"

	"chancery/der"
)

const (
	mostNumbers = 20        // of an oid
	mostGroup   = 1<<40 - 1 // that a group may be
	mostFirst   = 2         // that an oid's first number may be
	perFirst    = 40        // second numbers there are behind a first one below mostFirst
	groupBits   = 7         // of a number in one byte
	moreBit     = 1 << groupBits
)

// Oid is an oid's text.
func Oid(v der.Value) (string, bool) {
	if !isUniversal(v, tagOid) || !isRight(v) {
		return "", false
	}
	groups, ok := groupsOf(v.Bytes)
	if !ok {
		return "", false
	}
	first := min(groups[0]/perFirst, mostFirst)
	text := strconv.Itoa(first) + "." + strconv.Itoa(groups[0]-perFirst*first)
	for _, n := range groups[1:] {
		text += "." + strconv.Itoa(n)
	}
	return text, true
}

// OidValue is a text's oid.
func OidValue(s string) (der.Value, bool) {
	groups, ok := groupsIn(s)
	if !ok {
		return der.Value{}, false
	}
	var b []byte
	for _, n := range groups {
		b = putGroup(b, n)
	}
	return der.Value{Tag: tagOid, Bytes: b}, true
}

// groupsOf are the groups of a right oid's bytes, and whether it has a text.
func groupsOf(b []byte) ([]int, bool) {
	var groups []int
	n := 0
	for _, c := range b {
		n = n<<groupBits | int(c&^moreBit)
		// The first group is two numbers.
		if n > mostGroup || len(groups)+1 == mostNumbers {
			return nil, false
		}
		if c < moreBit {
			groups = append(groups, n)
			n = 0
		}
	}
	return groups, true
}

// groupsIn are the groups that an oid's text means, and whether it is one.
func groupsIn(s string) ([]int, bool) {
	// One more part than there may be tells that there are too many.
	parts := strings.SplitN(s, ".", mostNumbers+1)
	if len(parts) < 2 || len(parts) > mostNumbers {
		return nil, false
	}
	numbers := make([]int, len(parts))
	for i, part := range parts {
		n, ok := numberOf(part)
		if !ok {
			return nil, false
		}
		numbers[i] = n
	}
	first, second := numbers[0], numbers[1]
	if first > mostFirst || first < mostFirst && second >= perFirst {
		return nil, false
	}
	numbers[1] += perFirst * first
	return numbers[1:], numbers[1] <= mostGroup
}

// numberOf is the number that a text is in decimal digits without noughts ahead, and whether it is one that a group may be.
func numberOf(text string) (int, bool) {
	n := 0
	for i, r := range text {
		noughtAhead := i > 0 && n == 0
		if !isDigit(r) || noughtAhead {
			return 0, false
		}
		n = 10*n + int(r-'0')
		if n > mostGroup {
			return 0, false
		}
	}
	return n, text != ""
}

// putGroup puts a group behind b, in as few bytes as can be.
func putGroup(b []byte, n int) []byte {
	shift := 0
	for n>>shift >= moreBit {
		shift += groupBits
	}
	for ; shift > 0; shift -= groupBits {
		b = append(b, byte(n>>shift)|moreBit)
	}
	return append(b, byte(n)&^moreBit)
}
