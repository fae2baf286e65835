package cert

import (
	"bytes"
	"math"
	"math/rand"
	"reflect"
	"strings"
	"testing"

	"chancery/api"
	"chancery/der"
	"chancery/name"
)

// thing is what the five types are to who calls them.
type thing interface {
	Tbs() ([]byte, api.Errno)
	Encode() ([]byte, api.Errno)
}

// kind is one of the five.
type kind struct {
	name  string
	draw  func(r *rand.Rand) thing
	parse func(b []byte) (thing, api.Errno)
	none  thing
	slow  func(v der.Value, scheme int, sig []byte) any
}

func asThing[X thing](parse func(b []byte) (X, api.Errno)) func(b []byte) (thing, api.Errno) {
	return func(b []byte) (thing, api.Errno) { return parse(b) }
}

var kinds = []kind{
	{"certificate", drawnCert, asThing(ParseCert), Cert{}, slowCert},
	{"request", drawnRequest, asThing(ParseRequest), Request{}, slowRequest},
	{"list", drawnList, asThing(ParseList), List{}, slowList},
	{"answer", drawnAnswer, asThing(ParseAnswer), Answer{}, slowAnswer},
	{"head", drawnHead, asThing(ParseHead), Head{}, slowHead},
}

func kindOf(x thing) kind {
	for _, k := range kinds {
		if reflect.TypeOf(k.none) == reflect.TypeOf(x) {
			return k
		}
	}
	panic("no such kind")
}

// checkWrite holds Tbs and Encode against the slow ones, and what is written against what is read of it.
func checkWrite(t *testing.T, x thing) (tbs, encoded api.Errno) {
	t.Helper()
	got, e := x.Tbs()
	want, wantE := slowTbs(x)
	if !bytes.Equal(got, want) || e != wantE {
		t.Fatalf("Tbs of %+v: %x, %d, not %x, %d", x, got, e, want, wantE)
	}
	b, f := x.Encode()
	want, wantE = slowEncode(x)
	if !bytes.Equal(b, want) || f != wantE {
		t.Fatalf("Encode of %+v: %x, %d, not %x, %d", x, b, f, want, wantE)
	}
	if f != api.OK {
		return e, f
	}
	if checkParse(t, kindOf(x), b) != api.OK {
		t.Fatalf("%+v is not read again", x)
	}
	if back, _ := kindOf(x).parse(b); !same(back, placed(x)) {
		t.Fatalf("%+v is read as %+v", x, back)
	}
	return e, f
}

// placed is x, the fields without a place 0.
func placed(x thing) thing {
	if a, ok := x.(Answer); ok && a.Status != 1 {
		a.At, a.Reason = 0, 0
		return a
	}
	return x
}

// checkParse holds what is read of b against the slow one, and what is written of that against b.
func checkParse(t *testing.T, k kind, b []byte) api.Errno {
	t.Helper()
	x, e := k.parse(b)
	want, wantE := slowParse(b, k.none, k.slow)
	if !same(x, want) || e != wantE {
		t.Fatalf("%s %x: %+v, %d, not %+v, %d", k.name, b, x, e, want, wantE)
	}
	if e != api.OK {
		return e
	}
	if back, f := x.Encode(); f != api.OK || !bytes.Equal(back, b) {
		t.Fatalf("%s %x is read as %+v, which is written as %x, %d", k.name, b, x, back, f)
	}
	v, _ := der.Read(b)
	first, _ := der.Write(v.Kids[0])
	if tbs, f := x.Tbs(); f != api.OK || !bytes.Equal(tbs, first) {
		t.Fatalf("%s %x: Tbs is %x, %d", k.name, b, tbs, f)
	}
	return e
}

// chance is true once in n times.
func chance(r *rand.Rand, n int) bool { return r.Intn(n) == 0 }

func pick[T any](r *rand.Rand, list ...T) T { return list[r.Intn(len(list))] }

func drawnNumber(r *rand.Rand) int {
	if chance(r, 2) {
		return r.Intn(1 << r.Intn(62))
	}
	return pick(r, 0, 1, 2, 127, 128, 255, 256, 32767, 32768, 65535, 65536, 1<<31-1, 1<<31, 1<<32, 1<<55-1, 1<<55, 1<<56, 1<<62-1)
}

func drawnMoment(r *rand.Rand) int {
	if chance(r, 2) {
		return r.Intn(api.MaxTime + 1)
	}
	return pick(r, 0, 1, 2524607999, 2524608000, api.MaxTime)
}

func drawnBytes(r *rand.Rand, n int) []byte {
	b := make([]byte, n)
	r.Read(b)
	return b
}

func drawnKey(r *rand.Rand) []byte {
	return drawnBytes(r, pick(r, 0, 1, 2, 32, 126, 127, 128, 254, 255, 300))
}

func drawnScheme(r *rand.Rand) int { return 1 + r.Intn(9) }

func drawnDN(r *rand.Rand) name.DN {
	var d name.DN
	for range pick(r, 0, 1, 1, 2, 3) {
		d = append(d, name.Attr{Type: pick(r, "2.5.4.3", "2.5.4.10", "1.2.840", "2.999.1.4"), Text: pick(r, "a", "b c", "x*", "\u00e9", strings.Repeat("z", 64))})
	}
	return d
}

func drawnGeneral(r *rand.Rand, limit bool) name.General {
	switch r.Intn(6) {
	case 0:
		return name.General{Kind: 1, Text: pick(r, "u@a", "u@b.c", "x")}
	case 1, 2:
		return name.General{Kind: 2, Text: pick(r, "a", "a.b", "B.example", strings.Repeat("z", 64))}
	case 3:
		return name.General{Kind: 6, Text: pick(r, "x://a", "http://a.b/c")}
	case 4:
		d := drawnDN(r)
		if len(d) == 0 && !limit {
			d = name.DN{{Type: "2.5.4.3", Text: "a"}}
		}
		return name.General{Kind: 4, Dir: d}
	}
	if limit {
		return name.General{Kind: 7, Text: pick(r, "\x0a\x00\x00\x00\xff\x00\x00\x00", strings.Repeat("\x20", 16)+strings.Repeat("\xff", 16))}
	}
	return name.General{Kind: 7, Text: pick(r, "\x0a\x01\x02\x03", strings.Repeat("\x20", 16))}
}

func drawnNames(r *rand.Rand, limit bool) []name.General {
	n := r.Intn(4)
	if chance(r, 50) {
		n = 256
	}
	var all []name.General
	for range n {
		all = append(all, drawnGeneral(r, limit))
	}
	return all
}

func drawnCert(r *rand.Rand) thing {
	c := Cert{Serial: max(1, drawnNumber(r)), Scheme: drawnScheme(r), Issuer: drawnDN(r), Subject: drawnDN(r), From: drawnMoment(r), To: drawnMoment(r), KeyScheme: drawnScheme(r), Key: drawnKey(r), Path: -1, Sig: drawnKey(r)}
	if chance(r, 2) {
		c.CA, c.Path = true, pick(r, -1, drawnNumber(r))
	}
	if chance(r, 2) {
		c.Usage = r.Intn(512)
	}
	if chance(r, 2) {
		c.Alt = drawnNames(r, false)
	}
	if chance(r, 2) {
		c.Permit = drawnNames(r, true)
	}
	if chance(r, 2) {
		c.Exclude = drawnNames(r, true)
	}
	return c
}

func drawnRequest(r *rand.Rand) thing {
	return Request{Subject: drawnDN(r), KeyScheme: drawnScheme(r), Key: drawnKey(r), Alt: drawnNames(r, false), Scheme: drawnScheme(r), Sig: drawnKey(r)}
}

func drawnList(r *rand.Rand) thing {
	l := List{Issuer: drawnDN(r), Number: drawnNumber(r), This: drawnMoment(r), Next: drawnMoment(r), Scheme: drawnScheme(r), Sig: drawnKey(r)}
	n := r.Intn(4)
	if chance(r, 50) {
		n = 256
	}
	for range n {
		l.Entries = append(l.Entries, Entry{drawnNumber(r), drawnMoment(r), r.Intn(11)})
	}
	return l
}

func drawnAnswer(r *rand.Rand) thing {
	a := Answer{Key: drawnBytes(r, 32), Serial: drawnNumber(r), Status: r.Intn(3), This: drawnMoment(r), At: drawnMoment(r), Reason: r.Intn(11), Scheme: drawnScheme(r), Sig: drawnKey(r)}
	if a.Status != 1 && chance(r, 2) {
		a.At, a.Reason = pick(r, -1, math.MaxInt), pick(r, -1, 11)
	}
	return a
}

func drawnHead(r *rand.Rand) thing {
	return Head{Size: drawnNumber(r), Time: drawnMoment(r), Root: drawnBytes(r, 32), Scheme: drawnScheme(r), Sig: drawnKey(r)}
}

// P11.1, P11.2, P11.3: things of all kinds, that are right.
func TestThingsDrawn(t *testing.T) {
	r := rand.New(rand.NewSource(1))
	for range 1000 {
		for _, k := range kinds {
			x := k.draw(r)
			if e, f := checkWrite(t, x); e != api.OK && e != api.ErrBig || f != api.OK && f != api.ErrBig {
				t.Fatalf("%+v: %d, %d", x, e, f)
			}
		}
	}
}

// bentInt is a number that is wrong somewhere.
func bentInt(r *rand.Rand) int {
	return pick(r, -1, -2, 0, 1, 2, 3, 9, 10, 11, 511, 512, math.MinInt, math.MaxInt, 1<<62-1, 1<<62, api.MaxTime, api.MaxTime+1, -1<<62, 1<<32+1, 1<<32+2)
}

func bentDN(r *rand.Rand) name.DN {
	return pick(r,
		nil,
		name.DN{{Type: "1.2", Text: ""}},
		name.DN{{Type: "x", Text: "a"}},
		name.DN{{Type: "1.2", Text: ""}, {Type: "", Text: "a"}},
		make(name.DN, 17),
		name.DN{{Type: "2.5.4.3", Text: strings.Repeat("a", 65)}},
		name.DN{{Type: "2.5.4.3", Text: "\xff"}},
	)
}

func bentGeneral(r *rand.Rand) name.General {
	return pick(r,
		name.General{},
		name.General{Kind: 2},
		name.General{Kind: 3, Text: "a"},
		name.General{Kind: 4},
		name.General{Kind: 4, Dir: bentDN(r)},
		name.General{Kind: 7, Text: "abcd"},
		name.General{Kind: 7, Text: "abcd\xff\x00\x00\x00"},
		name.General{Kind: 7, Text: "abcd\x00\xff\x00\x00"},
		name.General{Kind: 2, Text: strings.Repeat("a", 65)},
		name.General{Kind: 1, Text: "\x80"},
		name.General{Kind: 2, Text: "a", Dir: name.DN{{Type: "2.5.4.3", Text: "a"}}},
	)
}

// bigName is a right name of some three thousand bytes.
func bigName() name.General {
	var d name.DN
	for range 16 {
		d = append(d, name.Attr{Type: "2.5" + strings.Repeat(".1099511627775", 18), Text: strings.Repeat("z", 64)})
	}
	return name.General{Kind: 4, Dir: d}
}

// times is a list of n of one thing.
func times[T any](n int, x T) []T {
	var all []T
	for range n {
		all = append(all, x)
	}
	return all
}

func bentNames(r *rand.Rand, list []name.General) []name.General {
	switch r.Intn(6) {
	case 0:
		return times(24, bigName())
	case 1:
		return times(257, name.General{Kind: 2, Text: "a"})
	case 2:
		return times(257, name.General{Kind: 2})
	}
	list = append([]name.General{}, list...)
	list = append(list, bentGeneral(r))
	r.Shuffle(len(list), func(i, j int) { list[i], list[j] = list[j], list[i] })
	return list
}

func bentEntries(r *rand.Rand, list []Entry) []Entry {
	if chance(r, 5) {
		return make([]Entry, pick(r, 256, 257))
	}
	list = append([]Entry{}, list...)
	list = append(list, Entry{pick(r, 1, bentInt(r)), pick(r, 1, bentInt(r)), pick(r, 1, bentInt(r))})
	r.Shuffle(len(list), func(i, j int) { list[i], list[j] = list[j], list[i] })
	return list
}

// bent is x with one of its fields changed, most often to something wrong.
func bent(r *rand.Rand, x thing) thing {
	v := reflect.New(reflect.TypeOf(x)).Elem()
	v.Set(reflect.ValueOf(x))
	f := v.Field(r.Intn(v.NumField()))
	switch old := f.Interface().(type) {
	case int:
		f.SetInt(int64(bentInt(r)))
	case bool:
		f.SetBool(!old)
	case []byte:
		f.SetBytes(make([]byte, pick(r, 0, 31, 32, 33, 65000, 65536, 70000)))
	case name.DN:
		f.Set(reflect.ValueOf(bentDN(r)))
	case []name.General:
		f.Set(reflect.ValueOf(bentNames(r, old)))
	case []Entry:
		f.Set(reflect.ValueOf(bentEntries(r, old)))
	default:
		panic("a field of another kind")
	}
	return v.Interface().(thing)
}

// P11.1: things with one, two or three fields bent: the first error in the order of the parts.
func TestThingsBent(t *testing.T) {
	r := rand.New(rand.NewSource(2))
	for _, k := range kinds {
		seen := map[api.Errno]int{}
		for range 1200 {
			x := k.draw(r)
			for range 1 + r.Intn(3) {
				x = bent(r, x)
			}
			_, e := checkWrite(t, x)
			seen[e]++
		}
		wanted := []api.Errno{api.OK, api.ErrForm, api.ErrSet, api.ErrTime, api.ErrName, api.ErrBig}
		for _, e := range wanted {
			nameless := k.name == "answer" || k.name == "head"
			timeless := k.name == "request"
			if e == api.ErrName && nameless || e == api.ErrTime && timeless {
				continue
			}
			if seen[e] < 20 {
				t.Errorf("%s: %d came %d times alone", k.name, e, seen[e])
			}
		}
	}
}
