package der

import (
	"bytes"
	"strings"
	"time"

	"chancery/api"
)

// The slow ones, by the chapter's words: the errors are panics, the value's bytes are counted by their places.

type stop struct{ e api.Errno }

func stopIf(hit bool, e api.Errno) {
	if hit {
		panic(stop{e})
	}
}

// caught runs f, and is the error that it stopped with.
func caught(f func()) (e api.Errno) {
	defer func() {
		if r := recover(); r != nil {
			e = r.(stop).e
		}
	}()
	f()
	return api.OK
}

func slowRead(b []byte) (v Value, e api.Errno) {
	e = caught(func() {
		stopIf(len(b) > 65536, api.ErrBig)
		var end int
		v, end = slowAt(b, 0, len(b), 0)
		stopIf(end < len(b), api.ErrMore)
	})
	if e != api.OK {
		v = Value{}
	}
	return v, e
}

// slowAt reads the value that stands at b[at:], in something that ends at end, and tells where it ends.
func slowAt(b []byte, at, end, within int) (Value, int) {
	stopIf(within > 16, api.ErrDeep)
	next := func() byte {
		stopIf(at >= end, api.ErrEnd)
		at++
		return b[at-1]
	}
	first := next()
	v := Value{Class: int(first / 64), Made: first/32%2 == 1, Tag: int(first % 32)}
	if v.Tag == 31 {
		v.Tag = 0
		for k := 1; ; k++ {
			c := next()
			stopIf(k == 1 && c == 0x80 || k == 4, api.ErrTag)
			v.Tag = v.Tag*128 + int(c%128)
			if c < 128 {
				break
			}
		}
		stopIf(v.Tag < 31, api.ErrTag)
	}
	length := int(next())
	stopIf(length == 0x80 || length > 0x84, api.ErrLength)
	if length > 0x80 {
		var all []byte
		for k := length - 0x80; k > 0; k-- {
			all = append(all, next())
		}
		length = 0
		for _, c := range all {
			length = length*256 + int(c)
		}
		fewer := 1
		for n := 256; length >= n; n *= 256 {
			fewer++
		}
		stopIf(length < 128 || fewer < len(all), api.ErrLength)
	}
	stopIf(end-at < length, api.ErrEnd)
	stopIf(v.Class == 0 && !slowRow(v.Tag, v.Made), api.ErrTag)
	if !v.Made {
		v.Bytes = bytes.Clone(b[at : at+length])
		stopIf(v.Class == 0 && !slowRight(v.Tag, v.Bytes), api.ErrValue)
		return v, at + length
	}
	var parts [][]byte
	for p := at; p < at+length; {
		kid, q := slowAt(b, p, at+length, within+1)
		v.Kids = append(v.Kids, kid)
		parts = append(parts, b[p:q])
		p = q
	}
	stopIf(v.Class == 0 && v.Tag == 17 && slowFalls(parts), api.ErrOrder)
	return v, at + length
}

func slowWrite(v Value) (b []byte, e api.Errno) {
	e = caught(func() {
		b = slowBytes(v, 0)
		stopIf(len(b) > 65536, api.ErrBig)
	})
	if e != api.OK {
		b = nil
	}
	return b, e
}

func slowBytes(v Value, within int) []byte {
	stopIf(within > 16, api.ErrDeep)
	stopIf(v.Class < 0 || v.Class > 3, api.ErrTag)
	stopIf(v.Tag < 0 || v.Tag >= 2097152, api.ErrTag)
	stopIf(v.Class == 0 && !slowRow(v.Tag, v.Made), api.ErrTag)
	stopIf(v.Made && len(v.Bytes) > 0 || !v.Made && len(v.Kids) > 0, api.ErrValue)
	stopIf(v.Class == 0 && !v.Made && !slowRight(v.Tag, v.Bytes), api.ErrValue)
	var parts [][]byte
	for _, kid := range v.Kids {
		parts = append(parts, slowBytes(kid, within+1))
	}
	stopIf(v.Class == 0 && v.Tag == 17 && slowFalls(parts), api.ErrOrder)
	inside := append(bytes.Clone(v.Bytes), bytes.Join(parts, nil)...)
	return append(slowHead(v, len(inside)), inside...)
}

func slowHead(v Value, length int) []byte {
	first := 64*v.Class + min(v.Tag, 31)
	if v.Made {
		first += 32
	}
	b := []byte{byte(first)}
	if v.Tag >= 31 {
		groups := slowDigits(v.Tag, 128)
		for i := range groups[:len(groups)-1] {
			groups[i] += 0x80
		}
		b = append(b, groups...)
	}
	if length < 128 {
		return append(b, byte(length))
	}
	all := slowDigits(length, 256)
	return append(append(b, byte(0x80+len(all))), all...)
}

// slowDigits are a number's digits, the highest first, as few as can be.
func slowDigits(n, base int) []byte {
	if n < base {
		return []byte{byte(n)}
	}
	return append(slowDigits(n/base, base), byte(n%base))
}

func slowRow(tag int, made bool) bool {
	switch tag {
	case 1, 2, 3, 4, 5, 6, 10, 12, 19, 22, 23, 24:
		return !made
	case 16, 17:
		return made
	}
	return false
}

func slowFalls(parts [][]byte) bool {
	for i := 1; i < len(parts); i++ {
		if string(parts[i-1]) > string(parts[i]) {
			return true
		}
	}
	return false
}

const slowPrintable = "ABCDEFGHIJKLMNOPQRSTUVWXYZabcdefghijklmnopqrstuvwxyz0123456789 '()+,-./:=?"

func slowRight(tag int, b []byte) bool {
	switch tag {
	case 1:
		return string(b) == "\x00" || string(b) == "\xff"
	case 2, 10:
		return len(b) == 1 || len(b) > 1 && !(b[0] == 0 && b[1] < 0x80) && !(b[0] == 0xff && b[1] >= 0x80)
	case 3:
		return slowBits(b)
	case 5:
		return len(b) == 0
	case 6:
		return slowOid(b)
	case 12:
		return strings.ToValidUTF8(string(b), "") == string(b)
	case 19:
		return strings.Trim(string(b), slowPrintable) == ""
	case 22:
		for _, c := range b {
			if c > 0x7f {
				return false
			}
		}
	case 23:
		if len(b) != 13 {
			return false
		}
		century := "20"
		if b[0] >= '5' {
			century = "19"
		}
		return slowTime(century + string(b))
	case 24:
		return slowTime(string(b))
	}
	return true
}

func slowBits(b []byte) bool {
	if len(b) == 0 || b[0] > 7 || len(b) == 1 && b[0] != 0 {
		return false
	}
	for k := range int(b[0]) {
		if b[len(b)-1]>>k%2 == 1 {
			return false
		}
	}
	return true
}

func slowOid(b []byte) bool {
	if len(b) == 0 || b[len(b)-1] >= 0x80 {
		return false
	}
	for i, c := range b {
		if c == 0x80 && (i == 0 || b[i-1] < 0x80) {
			return false
		}
	}
	return true
}

// slowTime asks the library, and whether the time that it read is written as it was.
func slowTime(s string) bool {
	const layout = "20060102150405Z"
	at, err := time.Parse(layout, s)
	return err == nil && at.Format(layout) == s
}
