package cert

import (
	"bytes"
	"encoding/hex"
	"math/big"
	"reflect"
	"strings"

	"chancery/api"
	"chancery/der"
	"chancery/name"
)

// The slow ones, by the chapter's words: writing puts bytes behind bytes and notes all errors; reading asks of each place whether what must stand there does.

func unhex(s string) []byte {
	b, err := hex.DecodeString(strings.ReplaceAll(s, " ", ""))
	if err != nil {
		panic(err)
	}
	return b
}

// tlv is a value in bytes; first is its first byte.
func tlv(first byte, parts ...[]byte) []byte {
	all := bytes.Join(parts, nil)
	head := []byte{first}
	if n := len(all); n < 128 {
		head = append(head, byte(n))
	} else {
		length := big.NewInt(int64(n)).Bytes()
		head = append(append(head, byte(128+len(length))), length...)
	}
	return append(head, all...)
}

func seq(parts ...[]byte) []byte { return tlv(0x30, parts...) }

var (
	slowTrue    = []byte{1, 1, 0xff}
	slowSchemes = [][]byte{
		nil,
		unhex("06 09 60 86 48 01 65 03 04 03 11"), unhex("06 09 60 86 48 01 65 03 04 03 12"), unhex("06 09 60 86 48 01 65 03 04 03 13"),
		unhex("06 04 88 37 01 04"), unhex("06 04 88 37 01 05"), unhex("06 04 88 37 01 06"), unhex("06 04 88 37 01 07"), unhex("06 04 88 37 01 08"), unhex("06 04 88 37 01 09"),
	}
)

// slow notes the errors of a thing that is written.
type slow struct{ errs []api.Errno }

func (s *slow) note(bad bool, e api.Errno) {
	if bad {
		s.errs = append(s.errs, e)
	}
}

func (s *slow) number(first byte, n, least, most int) []byte {
	s.note(n < least || n > most, api.ErrForm)
	b := new(big.Int).SetInt64(int64(n)).Bytes()
	if len(b) == 0 || b[0] >= 128 {
		b = append([]byte{0}, b...)
	}
	return tlv(first, b)
}

func (s *slow) integer(n, least int) []byte { return s.number(2, n, least, 1<<62-1) }

func (s *slow) choice(n, most int) []byte { return s.number(10, n, 0, most) }

func (s *slow) scheme(n int) []byte {
	s.note(n < 1 || n > 9, api.ErrSet)
	if n < 1 || n > 9 {
		return nil
	}
	return seq(slowSchemes[n])
}

func (s *slow) bits(b []byte) []byte { return tlv(3, []byte{0}, b) }

func (s *slow) key(scheme int, key []byte) []byte { return seq(s.scheme(scheme), s.bits(key)) }

// value is a value of layer 10 in bytes.
func (s *slow) value(v der.Value, e api.Errno) []byte {
	s.note(e != api.OK, e)
	if e != api.OK {
		return nil
	}
	b, e := der.Write(v)
	if e != api.OK {
		panic(e)
	}
	return b
}

func (s *slow) moment(t int) []byte { return s.value(name.TimeValue(t)) }

func (s *slow) dn(d name.DN) []byte { return s.value(d.Value()) }

func (s *slow) hash(b []byte) []byte {
	s.note(len(b) != 32, api.ErrForm)
	return tlv(4, b)
}

func (s *slow) names(list []name.General) []byte {
	s.note(len(list) > 256, api.ErrForm)
	var b []byte
	for _, g := range list {
		b = append(b, s.value(g.Value(false))...)
	}
	return b
}

func (s *slow) limits(first byte, list []name.General) []byte {
	s.note(len(list) > 256, api.ErrForm)
	if len(list) == 0 {
		return nil
	}
	var b []byte
	for _, g := range list {
		b = append(b, seq(s.value(g.Value(true)))...)
	}
	return tlv(first, b)
}

func slowUsage(usage int) []byte {
	text := ""
	for k := range 9 {
		text += string(rune('0' + usage>>k&1))
	}
	text = strings.TrimRight(text, "0")
	unused := (8 - len(text)%8) % 8
	n, _ := new(big.Int).SetString(text+strings.Repeat("0", unused), 2)
	return tlv(3, []byte{byte(unused)}, n.FillBytes(make([]byte, (len(text)+7)/8)))
}

func (s *slow) extensions(c Cert) []byte {
	var all []byte
	s.note(!c.CA && c.Path != -1, api.ErrForm)
	if c.CA {
		basic := slowTrue
		if c.Path != -1 {
			basic = append(basic[:3:3], s.integer(c.Path, 0)...)
		}
		all = append(all, seq(unhex("06 03 55 1d 13"), slowTrue, tlv(4, seq(basic)))...)
	}
	s.note(c.Usage < 0 || c.Usage > 511, api.ErrForm)
	if c.Usage > 0 && c.Usage < 512 {
		all = append(all, seq(unhex("06 03 55 1d 0f"), slowTrue, tlv(4, slowUsage(c.Usage)))...)
	}
	if names := s.names(c.Alt); len(c.Alt) > 0 {
		all = append(all, seq(unhex("06 03 55 1d 11"), tlv(4, seq(names)))...)
	}
	if limits := append(s.limits(0xa0, c.Permit), s.limits(0xa1, c.Exclude)...); len(c.Permit)+len(c.Exclude) > 0 {
		all = append(all, seq(unhex("06 03 55 1d 1e"), slowTrue, tlv(4, seq(limits)))...)
	}
	if len(all) == 0 {
		return nil
	}
	return tlv(0xa3, seq(all))
}

// thing is what is signed of x, the scheme of its signature, and that.
func (s *slow) thing(x any) (thing []byte, scheme int, sig []byte) {
	switch x := x.(type) {
	case Cert:
		return seq(tlv(0xa0, s.integer(2, 0)), s.integer(x.Serial, 1), s.scheme(x.Scheme), s.dn(x.Issuer), seq(s.moment(x.From), s.moment(x.To)), s.dn(x.Subject), s.key(x.KeyScheme, x.Key), s.extensions(x)), x.Scheme, x.Sig
	case Request:
		all := [][]byte{s.integer(0, 0), s.dn(x.Subject), s.key(x.KeyScheme, x.Key)}
		if names := s.names(x.Alt); len(x.Alt) > 0 {
			all = append(all, tlv(0xa0, names))
		}
		return seq(all...), x.Scheme, x.Sig
	case List:
		all := [][]byte{s.integer(1, 0), s.scheme(x.Scheme), s.dn(x.Issuer), s.moment(x.This), s.moment(x.Next)}
		s.note(len(x.Entries) > 256, api.ErrForm)
		var entries []byte
		for _, e := range x.Entries {
			entries = append(entries, seq(s.integer(e.Serial, 0), s.moment(e.At), s.choice(e.Reason, 10))...)
		}
		if len(x.Entries) > 0 {
			all = append(all, seq(entries))
		}
		return seq(append(all, tlv(0xa0, s.integer(x.Number, 0)))...), x.Scheme, x.Sig
	case Answer:
		all := [][]byte{s.hash(x.Key), s.integer(x.Serial, 0), s.choice(x.Status, 2), s.moment(x.This)}
		if x.Status == 1 {
			all = append(all, tlv(0xa0, seq(s.moment(x.At), s.choice(x.Reason, 10))))
		}
		return seq(all...), x.Scheme, x.Sig
	case Head:
		return seq(s.integer(x.Size, 0), s.moment(x.Time), s.hash(x.Root)), x.Scheme, x.Sig
	}
	panic("no such thing")
}

// told is what is answered of bytes: the first error that was noted, or ErrBig.
func (s *slow) told(b []byte) ([]byte, api.Errno) {
	if len(s.errs) > 0 {
		return nil, s.errs[0]
	}
	if len(b) > 65536 {
		return nil, api.ErrBig
	}
	return b, api.OK
}

func slowTbs(x any) ([]byte, api.Errno) {
	s := &slow{}
	thing, _, _ := s.thing(x)
	return s.told(thing)
}

func slowEncode(x any) ([]byte, api.Errno) {
	s := &slow{}
	thing, scheme, sig := s.thing(x)
	return s.told(seq(thing, s.scheme(scheme), s.bits(sig)))
}

// must ends a slow reading, if something isn't as it must be.
func must(ok bool) {
	if !ok {
		panic("not the form")
	}
}

// within tells the kids of a made value, whose number must be from least to most.
func within(v der.Value, class, tag, least, most int) []der.Value {
	must(v.Made && v.Class == class && v.Tag == tag && len(v.Kids) >= least && len(v.Kids) <= most)
	return v.Kids
}

func readNumber(v der.Value, tag, least, most int) int {
	must(!v.Made && v.Class == 0 && v.Tag == tag && v.Bytes[0] < 128)
	n := new(big.Int).SetBytes(v.Bytes)
	must(n.Cmp(big.NewInt(int64(least))) >= 0 && n.Cmp(big.NewInt(int64(most))) <= 0)
	return int(n.Int64())
}

func readInteger(v der.Value, least int) int { return readNumber(v, 2, least, 1<<62-1) }

func readScheme(v der.Value) int {
	b, _ := der.Write(within(v, 0, 16, 1, 1)[0])
	for n := 1; n <= 9; n++ {
		if bytes.Equal(slowSchemes[n], b) {
			return n
		}
	}
	panic("no scheme")
}

func readBits(v der.Value) []byte {
	must(v.Class == 0 && v.Tag == 3 && v.Bytes[0] == 0)
	return v.Bytes[1:]
}

func readKey(v der.Value) (scheme int, key []byte) {
	kids := within(v, 0, 16, 2, 2)
	return readScheme(kids[0]), readBits(kids[1])
}

func readMoment(v der.Value) int {
	t, e := name.Time(v)
	must(e == api.OK)
	return t
}

func readDN(v der.Value) name.DN {
	d, e := name.ParseDN(v)
	must(e == api.OK)
	return d
}

func readName(v der.Value, limit bool) name.General {
	g, e := name.ParseGeneral(v, limit)
	must(e == api.OK)
	return g
}

func readHash(v der.Value) []byte {
	must(v.Class == 0 && v.Tag == 4 && len(v.Bytes) == 32)
	return v.Bytes
}

func readNames(kids []der.Value) []name.General {
	var all []name.General
	for _, kid := range kids {
		all = append(all, readName(kid, false))
	}
	return all
}

func readLimits(kids []der.Value) []name.General {
	var all []name.General
	for _, kid := range kids {
		all = append(all, readName(within(kid, 0, 16, 1, 1)[0], true))
	}
	return all
}

func readBasic(c *Cert, v der.Value) {
	kids := within(v, 0, 16, 1, 2)
	must(kids[0].Class == 0 && kids[0].Tag == 1 && kids[0].Bytes[0] == 255)
	c.CA = true
	if len(kids) == 2 {
		c.Path = readInteger(kids[1], 0)
	}
}

func readUsageBits(c *Cert, v der.Value) {
	must(v.Class == 0 && v.Tag == 3 && len(v.Bytes) > 1)
	for n := 1; n < 512; n++ {
		if b, _ := der.Write(v); bytes.Equal(slowUsage(n), b) {
			c.Usage = n
			return
		}
	}
	must(false)
}

func readNameLimits(c *Cert, v der.Value) {
	kids := within(v, 0, 16, 1, 2)
	if kids[0].Tag == 0 {
		c.Permit = readLimits(within(kids[0], 2, 0, 1, 256))
		kids = kids[1:]
	}
	if len(kids) > 0 {
		must(len(kids) == 1)
		c.Exclude = readLimits(within(kids[0], 2, 1, 1, 256))
	}
}

func readExtensions(c *Cert, all []der.Value) {
	order := []struct {
		oid      string
		critical bool
		read     func(c *Cert, v der.Value)
	}{
		{"2.5.29.19", true, readBasic},
		{"2.5.29.15", true, readUsageBits},
		{"2.5.29.17", false, func(c *Cert, v der.Value) { c.Alt = readNames(within(v, 0, 16, 1, 256)) }},
		{"2.5.29.30", true, readNameLimits},
	}
	for _, next := range order {
		if len(all) == 0 {
			return
		}
		kids := within(all[0], 0, 16, 2, 3)
		if oid, _ := name.Oid(kids[0]); oid != next.oid {
			continue
		}
		if next.critical {
			must(len(kids) == 3 && kids[1].Class == 0 && kids[1].Tag == 1 && kids[1].Bytes[0] == 255)
			kids = kids[1:]
		}
		must(len(kids) == 2 && kids[1].Class == 0 && kids[1].Tag == 4)
		v, e := der.Read(kids[1].Bytes)
		must(e == api.OK)
		next.read(c, v)
		all = all[1:]
	}
	must(len(all) == 0)
}

func slowCert(thing der.Value, scheme int, sig []byte) any {
	kids := within(thing, 0, 16, 7, 8)
	must(readInteger(within(kids[0], 2, 0, 1, 1)[0], 0) == 2)
	must(readScheme(kids[2]) == scheme)
	times := within(kids[4], 0, 16, 2, 2)
	c := Cert{Serial: readInteger(kids[1], 1), Scheme: scheme, Issuer: readDN(kids[3]), Subject: readDN(kids[5]), From: readMoment(times[0]), To: readMoment(times[1]), Path: -1, Sig: sig}
	c.KeyScheme, c.Key = readKey(kids[6])
	if len(kids) == 8 {
		readExtensions(&c, within(within(kids[7], 2, 3, 1, 1)[0], 0, 16, 1, 4))
	}
	return c
}

func slowRequest(thing der.Value, scheme int, sig []byte) any {
	kids := within(thing, 0, 16, 3, 4)
	must(readInteger(kids[0], 0) == 0)
	r := Request{Subject: readDN(kids[1]), Scheme: scheme, Sig: sig}
	r.KeyScheme, r.Key = readKey(kids[2])
	if len(kids) == 4 {
		r.Alt = readNames(within(kids[3], 2, 0, 1, 256))
	}
	return r
}

func slowList(thing der.Value, scheme int, sig []byte) any {
	kids := within(thing, 0, 16, 6, 7)
	must(readInteger(kids[0], 0) == 1)
	must(readScheme(kids[1]) == scheme)
	l := List{Issuer: readDN(kids[2]), This: readMoment(kids[3]), Next: readMoment(kids[4]), Scheme: scheme, Sig: sig}
	if len(kids) == 7 {
		for _, kid := range within(kids[5], 0, 16, 1, 256) {
			parts := within(kid, 0, 16, 3, 3)
			l.Entries = append(l.Entries, Entry{readInteger(parts[0], 0), readMoment(parts[1]), readNumber(parts[2], 10, 0, 10)})
		}
	}
	l.Number = readInteger(within(kids[len(kids)-1], 2, 0, 1, 1)[0], 0)
	return l
}

func slowAnswer(thing der.Value, scheme int, sig []byte) any {
	kids := within(thing, 0, 16, 4, 5)
	a := Answer{Key: readHash(kids[0]), Serial: readInteger(kids[1], 0), Status: readNumber(kids[2], 10, 0, 2), This: readMoment(kids[3]), Scheme: scheme, Sig: sig}
	must((len(kids) == 5) == (a.Status == 1))
	if a.Status == 1 {
		parts := within(within(kids[4], 2, 0, 1, 1)[0], 0, 16, 2, 2)
		a.At, a.Reason = readMoment(parts[0]), readNumber(parts[1], 10, 0, 10)
	}
	return a
}

func slowHead(thing der.Value, scheme int, sig []byte) any {
	kids := within(thing, 0, 16, 3, 3)
	return Head{Size: readInteger(kids[0], 0), Time: readMoment(kids[1]), Root: readHash(kids[2]), Scheme: scheme, Sig: sig}
}

// slowParse reads a signed thing; none is what is told beside an error.
func slowParse(b []byte, none any, read func(thing der.Value, scheme int, sig []byte) any) (x any, e api.Errno) {
	v, e := der.Read(b)
	if e != api.OK {
		return none, e
	}
	defer func() {
		if recover() != nil {
			x, e = none, api.ErrForm
		}
	}()
	kids := within(v, 0, 16, 3, 3)
	return read(kids[0], readScheme(kids[1]), readBits(kids[2])), api.OK
}

// plain is x with its empty lists nil: nil and empty ones are one.
func plain(x any) any {
	v := reflect.New(reflect.TypeOf(x)).Elem()
	v.Set(reflect.ValueOf(x))
	return plainly(v).Interface()
}

func plainly(v reflect.Value) reflect.Value {
	out := reflect.New(v.Type()).Elem()
	switch v.Kind() {
	case reflect.Struct:
		for i := range v.NumField() {
			out.Field(i).Set(plainly(v.Field(i)))
		}
	case reflect.Slice:
		if v.Type().Elem().Kind() == reflect.Uint8 && v.Len() > 0 {
			return v
		}
		for i := range v.Len() {
			out.Set(reflect.Append(out, plainly(v.Index(i))))
		}
	default:
		out.Set(v)
	}
	return out
}

func same(x, y any) bool { return reflect.DeepEqual(plain(x), plain(y)) }
