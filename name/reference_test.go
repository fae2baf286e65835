package name

import (
	"bytes"
	"math/big"
	"reflect"
	"regexp"
	"strings"
	"time"
	"unicode/utf8"

	"chancery/api"
	"chancery/der"
)

// The slow ones, by the chapter's words: texts are asked by patterns, numbers are big ones, times are the library's.

const (
	slowPrintable = `^[A-Za-z0-9 '()+,\-./:=?]*$`
	slowOidText   = `^(0|[1-9][0-9]*)(\.(0|[1-9][0-9]*)){1,19}$`
	slowLabel     = `[A-Za-z0-9]([A-Za-z0-9-]{0,61}[A-Za-z0-9])?`
	slowMachine   = slowLabel + `(\.` + slowLabel + `)*`
)

var (
	printables  = regexp.MustCompile(slowPrintable)
	oidTexts    = regexp.MustCompile(slowOidText)
	machines    = regexp.MustCompile(`^` + slowMachine + `$`)
	mails       = regexp.MustCompile(`^([^@]+)@(` + slowMachine + `)$`)
	uris        = regexp.MustCompile(`(?s)^(.*?)://(` + slowMachine + `)([/:?#].*)?$`)
	groupBorder = big.NewInt(1 << 40)
)

func writable(v der.Value) bool {
	_, e := der.Write(v)
	return e == api.OK
}

func slowOid(v der.Value) (string, bool) {
	if v.Class != 0 || v.Tag != 6 || !writable(v) {
		return "", false
	}
	numbers := []string{}
	group := new(big.Int)
	for _, c := range v.Bytes {
		group.Add(group.Mul(group, big.NewInt(128)), big.NewInt(int64(c%128)))
		if c >= 128 {
			continue
		}
		if group.Cmp(groupBorder) >= 0 {
			return "", false
		}
		g := group.Int64()
		switch {
		case len(numbers) > 0:
			numbers = append(numbers, group.String())
		case g < 40:
			numbers = append(numbers, "0", big.NewInt(g).String())
		case g < 80:
			numbers = append(numbers, "1", big.NewInt(g-40).String())
		default:
			numbers = append(numbers, "2", big.NewInt(g-80).String())
		}
		group = new(big.Int)
	}
	if len(numbers) > 20 {
		return "", false
	}
	return strings.Join(numbers, "."), true
}

func slowOidValue(s string) (der.Value, bool) {
	if !oidTexts.MatchString(s) {
		return der.Value{}, false
	}
	var groups []*big.Int
	for _, part := range strings.Split(s, ".") {
		n, _ := new(big.Int).SetString(part, 10)
		groups = append(groups, n)
	}
	first, second := groups[0], groups[1]
	if first.Cmp(big.NewInt(2)) > 0 || first.Cmp(big.NewInt(2)) < 0 && second.Cmp(big.NewInt(40)) >= 0 {
		return der.Value{}, false
	}
	groups = groups[1:]
	second.Add(second, first.Mul(first, big.NewInt(40)))
	v := der.Value{Tag: 6}
	for _, g := range groups {
		if g.Cmp(groupBorder) >= 0 {
			return der.Value{}, false
		}
		v.Bytes = append(v.Bytes, slowGroup(g.Int64())...)
	}
	return v, true
}

func slowGroup(n int64) []byte {
	if n < 128 {
		return []byte{byte(n)}
	}
	b := slowGroup(n / 128)
	b[len(b)-1] += 128
	return append(b, byte(n%128))
}

const longLayout = "20060102150405Z"

func slowTime(v der.Value) (int, api.Errno) {
	if v.Class != 0 || v.Tag != 23 && v.Tag != 24 || !writable(v) {
		return 0, api.ErrForm
	}
	text := string(v.Bytes)
	if v.Tag == 23 {
		century := "20"
		if text[0] >= '5' {
			century = "19"
		}
		text = century + text
	}
	at, err := time.Parse(longLayout, text)
	if err != nil {
		panic(err)
	}
	if at.Year() < 1970 || v.Tag == 24 && at.Year() <= 2049 {
		return 0, api.ErrTime
	}
	return int(at.Unix()), api.OK
}

func slowTimeValue(t int) (der.Value, api.Errno) {
	if t < 0 || t > 253402300799 {
		return der.Value{}, api.ErrTime
	}
	at := time.Unix(int64(t), 0).UTC()
	if at.Year() <= 2049 {
		return der.Value{Tag: 23, Bytes: []byte(at.Format("060102150405Z"))}, api.OK
	}
	return der.Value{Tag: 24, Bytes: []byte(at.Format(longLayout))}, api.OK
}

func isSequence(v der.Value) bool { return v.Class == 0 && v.Tag == 16 }

func slowTextTag(text string) int {
	if printables.MatchString(text) {
		return 19
	}
	return 12
}

func slowParseDN(v der.Value) (DN, api.Errno) {
	if !writable(v) || !isSequence(v) || len(v.Kids) > 16 {
		return nil, api.ErrForm
	}
	var d DN
	var tags []int
	for _, set := range v.Kids {
		if set.Class != 0 || set.Tag != 17 || len(set.Kids) != 1 || !isSequence(set.Kids[0]) || len(set.Kids[0].Kids) != 2 {
			return nil, api.ErrForm
		}
		oid, text := set.Kids[0].Kids[0], set.Kids[0].Kids[1]
		s, ok := slowOid(oid)
		if !ok || text.Class != 0 || text.Tag != 12 && text.Tag != 19 {
			return nil, api.ErrForm
		}
		d = append(d, Attr{s, string(text.Bytes)})
		tags = append(tags, text.Tag)
	}
	for i, a := range d {
		if len(a.Text) < 1 || len(a.Text) > 64 || tags[i] != slowTextTag(a.Text) {
			return nil, api.ErrName
		}
	}
	return d, api.OK
}

func seq(kids ...der.Value) der.Value { return der.Value{Tag: 16, Made: true, Kids: kids} }

func set(kids ...der.Value) der.Value { return der.Value{Tag: 17, Made: true, Kids: kids} }

func slowDN(d DN) (der.Value, api.Errno) {
	if len(d) > 16 {
		return der.Value{}, api.ErrForm
	}
	v := seq()
	e := api.OK
	for _, a := range d {
		oid, ok := slowOidValue(a.Type)
		if !ok {
			return der.Value{}, api.ErrForm
		}
		if len(a.Text) < 1 || len(a.Text) > 64 || !utf8.ValidString(a.Text) {
			e = api.ErrName
		}
		v.Kids = append(v.Kids, set(seq(oid, der.Value{Tag: slowTextTag(a.Text), Bytes: []byte(a.Text)})))
	}
	if e != api.OK {
		return der.Value{}, e
	}
	return v, api.OK
}

// slowTextRight tells whether the text of a Kind other than 4 is as it must be.
func slowTextRight(kind int, text string, limit bool) bool {
	if kind != 7 {
		for i := range len(text) {
			if text[i] >= 128 {
				return false
			}
		}
		return len(text) <= 64 && (limit || len(text) >= 1)
	}
	if !limit {
		return len(text) == 4 || len(text) == 16
	}
	if len(text) != 8 && len(text) != 32 {
		return false
	}
	mask := ""
	for _, c := range []byte(text[len(text)/2:]) {
		mask += big.NewInt(256 + int64(c)).Text(2)[1:]
	}
	return !strings.Contains(mask, "01")
}

func slowParseGeneral(v der.Value, limit bool) (General, api.Errno) {
	if !writable(v) || v.Class != 2 {
		return General{}, api.ErrForm
	}
	switch v.Tag {
	case 1, 2, 6, 7:
		if v.Made {
			return General{}, api.ErrForm
		}
		if !slowTextRight(v.Tag, string(v.Bytes), limit) {
			return General{}, api.ErrName
		}
		return General{Kind: v.Tag, Text: string(v.Bytes)}, api.OK
	case 4:
		if !v.Made || len(v.Kids) != 1 {
			return General{}, api.ErrForm
		}
		d, e := slowParseDN(v.Kids[0])
		if e != api.OK || len(d) == 0 && !limit {
			return General{}, api.ErrName
		}
		return General{Kind: 4, Dir: d}, api.OK
	}
	return General{}, api.ErrForm
}

func slowGeneral(g General, limit bool) (der.Value, api.Errno) {
	switch g.Kind {
	case 1, 2, 6, 7:
		if len(g.Dir) > 0 {
			return der.Value{}, api.ErrForm
		}
		if !slowTextRight(g.Kind, g.Text, limit) {
			return der.Value{}, api.ErrName
		}
		return der.Value{Class: 2, Tag: g.Kind, Bytes: []byte(g.Text)}, api.OK
	case 4:
		if g.Text != "" {
			return der.Value{}, api.ErrForm
		}
		d, e := slowDN(g.Dir)
		if e != api.OK || len(g.Dir) == 0 && !limit {
			return der.Value{}, api.ErrName
		}
		return der.Value{Class: 2, Tag: 4, Made: true, Kids: []der.Value{d}}, api.OK
	}
	return der.Value{}, api.ErrForm
}

func slowWithin(n, limit General) bool {
	_, e := slowGeneral(n, false)
	_, f := slowGeneral(limit, true)
	if n.Kind != limit.Kind || e != api.OK || f != api.OK {
		return false
	}
	lower := strings.ToLower(limit.Text)
	switch n.Kind {
	case 1:
		parts := mails.FindStringSubmatch(n.Text)
		if parts == nil {
			return false
		}
		host := strings.ToLower(parts[2])
		if at := strings.Index(limit.Text, "@"); at >= 0 {
			return parts[1]+"@"+host == limit.Text[:at]+lower[at:]
		}
		return lower == "" || slowBelow(host, lower) || host == lower
	case 2:
		name := strings.ToLower(n.Text)
		return machines.MatchString(n.Text) && (lower == "" || name == lower || strings.HasSuffix(name, "."+lower))
	case 4:
		return len(limit.Dir) == 0 || len(n.Dir) >= len(limit.Dir) && reflect.DeepEqual(n.Dir[:len(limit.Dir)], limit.Dir)
	case 6:
		parts := uris.FindStringSubmatch(n.Text)
		if parts == nil || strings.Contains(parts[1], "://") {
			return false
		}
		host := strings.ToLower(parts[2])
		return lower == "" || slowBelow(host, lower) || host == lower
	}
	half := len(limit.Text) / 2
	if len(n.Text) != half {
		return false
	}
	mask := []byte(limit.Text[half:])
	return bytes.Equal(masked(n.Text, mask), masked(limit.Text[:half], mask))
}

func slowBelow(host, limit string) bool {
	return limit[0] == '.' && len(host) > len(limit) && host[len(host)-len(limit):] == limit
}

func masked(address string, mask []byte) []byte {
	b := []byte(address)
	for i := range b {
		b[i] &= mask[i]
	}
	return b
}

// plain is v with its empty lists nil: nil and empty ones are one.
func plain(v der.Value) der.Value {
	w := v
	w.Bytes, w.Kids = nil, nil
	if len(v.Bytes) > 0 {
		w.Bytes = v.Bytes
	}
	for _, kid := range v.Kids {
		w.Kids = append(w.Kids, plain(kid))
	}
	return w
}

func same(a, b der.Value) bool { return reflect.DeepEqual(plain(a), plain(b)) }

func isZero(v der.Value) bool { return same(v, der.Value{}) }

func sameDN(a, b DN) bool { return len(a) == 0 && len(b) == 0 || reflect.DeepEqual(a, b) }

func sameGeneral(a, b General) bool {
	return a.Kind == b.Kind && a.Text == b.Text && sameDN(a.Dir, b.Dir)
}
