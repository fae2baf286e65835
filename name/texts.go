package name

import (
	"strings"
	"unicode/utf8"

	"chancery/der"
)

// every tells whether a question is true of each rune of a text. A byte that isn't valid UTF-8 is asked as a rune from 128 on.
func every(text string, question func(r rune) bool) bool {
	for _, r := range text {
		if !question(r) {
			return false
		}
	}
	return true
}

func isASCII(r rune) bool { return r < utf8.RuneSelf }

func isPrintable(r rune) bool { return isASCII(r) && der.Printable(byte(r)) }

func isDigit(r rune) bool { return '0' <= r && r <= '9' }

func isCapital(r rune) bool { return 'A' <= r && r <= 'Z' }

// mayLabel tells whether a rune may stand in a label.
func mayLabel(r rune) bool {
	return isDigit(r) || isCapital(r) || 'a' <= r && r <= 'z' || r == '-'
}

func smallRune(r rune) rune {
	if isCapital(r) {
		return r - 'A' + 'a'
	}
	return r
}

// small is a text with small letters for its capital ones.
func small(text string) string { return strings.Map(smallRune, text) }
