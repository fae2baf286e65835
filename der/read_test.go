package der

import (
	"bytes"
	"encoding/asn1"
	"encoding/hex"
	"math/rand"
	"reflect"
	"strings"
	"testing"

	"chancery/api"
)

func unhex(t *testing.T, s string) []byte {
	t.Helper()
	b, err := hex.DecodeString(strings.ReplaceAll(s, " ", ""))
	if err != nil {
		t.Fatal(err)
	}
	return b
}

// plain is v with its empty lists nil: nil and empty ones are one.
func plain(v Value) Value {
	w := v
	w.Bytes, w.Kids = nil, nil
	if len(v.Bytes) > 0 {
		w.Bytes = v.Bytes
	}
	for _, kid := range v.Kids {
		w.Kids = append(w.Kids, plain(kid))
	}
	return w
}

func same(a, b Value) bool { return reflect.DeepEqual(plain(a), plain(b)) }

// checkRead holds Read against the slow one, and what is read against what is written of it.
func checkRead(t *testing.T, b []byte) api.Errno {
	t.Helper()
	v, e := Read(b)
	want, wantE := slowRead(b)
	if e != wantE || !same(v, want) {
		t.Fatalf("%x: %+v, %d, not %+v, %d", b, v, e, want, wantE)
	}
	if e != api.OK {
		return e
	}
	if back, f := Write(v); f != api.OK || !bytes.Equal(back, b) {
		t.Fatalf("%x is written as %x, %d", b, back, f)
	}
	return e
}

// P9.1: the error of the bytes, also where several apply.
func TestReadErrors(t *testing.T) {
	for _, x := range []struct {
		in   string
		want api.Errno
	}{
		// The chapter's examples.
		{"30 03 02 01 05", api.OK}, {"02 02 00 05", api.ErrValue}, {"30 80 00 00", api.ErrLength}, {"02 81 01 05", api.ErrLength},
		{"31 06 02 01 02 02 01 01", api.ErrOrder}, {"05 00 00", api.ErrMore}, {"9f 1e 00", api.ErrTag},
		// The first byte, and the tag's.
		{"", api.ErrEnd}, {"1f", api.ErrEnd}, {"9f", api.ErrEnd}, {"9f 80", api.ErrTag}, {"9f 80 1f 00", api.ErrTag}, {"9f 81", api.ErrEnd},
		{"9f 81 80", api.ErrEnd}, {"9f 81 80 80", api.ErrEnd}, {"9f 81 80 80 00", api.ErrTag}, {"9f 81 80 80 80", api.ErrTag}, {"9f 81 00 00", api.OK},
		{"9f 81 80 00 00", api.OK}, {"9f ff 7f 00", api.OK}, {"9f ff ff 7f 00", api.OK}, {"9f 1f 00", api.OK}, {"9f 1e", api.ErrTag}, {"9f 00", api.ErrTag},
		{"9e 00", api.OK}, {"1f 1e", api.ErrTag}, {"1f 1f", api.ErrEnd}, {"1f 1f 00", api.ErrTag}, {"3f 1f 00", api.ErrTag}, {"1f 81 00 00", api.ErrTag},
		// The length.
		{"02", api.ErrEnd}, {"07", api.ErrEnd}, {"02 80", api.ErrLength}, {"02 85", api.ErrLength}, {"02 ff", api.ErrLength}, {"07 80", api.ErrLength},
		{"02 85 01 00 00 00 00", api.ErrLength}, {"02 81", api.ErrEnd}, {"02 82 05", api.ErrEnd}, {"02 82 00", api.ErrEnd}, {"02 84 00 00 00", api.ErrEnd},
		{"04 81 7f", api.ErrLength}, {"04 81 80", api.ErrEnd}, {"04 82 00 ff", api.ErrLength}, {"04 82 00 00", api.ErrLength}, {"04 82 01 00", api.ErrEnd},
		{"04 83 00 ff ff", api.ErrLength}, {"04 83 01 00 00", api.ErrEnd}, {"04 84 00 ff ff ff", api.ErrLength}, {"04 84 01 00 00 00", api.ErrEnd},
		{"04 84 ff ff ff ff", api.ErrEnd}, {"04 84 80 00 00 00 00", api.ErrEnd}, {"02 01", api.ErrEnd}, {"07 01", api.ErrEnd}, {"30 01", api.ErrEnd},
		// The tag and form ahead of the bytes and the kids.
		{"07 01 00", api.ErrTag}, {"00 00", api.ErrTag}, {"10 00", api.ErrTag}, {"11 00", api.ErrTag}, {"22 03 02 01 05", api.ErrTag}, {"24 02 04 00", api.ErrTag},
		{"10 01 00", api.ErrTag}, {"2c 00", api.ErrTag}, {"27 02 02 00", api.ErrTag}, {"20 03 02 01 05", api.ErrTag},
		{"a0 03 02 01 05", api.OK}, {"a0 00", api.OK}, {"80 00", api.OK}, {"e0 00", api.OK}, {"40 01 80", api.OK}, {"60 02 04 00", api.OK}, {"c2 02 00 05", api.OK},
		// The bytes, ahead of what is behind.
		{"02 00", api.ErrValue}, {"02 00 00", api.ErrValue}, {"05 01 00", api.ErrValue}, {"05 01 00 00", api.ErrValue}, {"01 01 01 ff", api.ErrValue},
		// Kids: an outer value ahead of them, one ahead of the next, what holds them is their end.
		{"30 00", api.OK}, {"31 00", api.OK}, {"30 01 02", api.ErrEnd}, {"30 02 02 01 05", api.ErrEnd}, {"30 03 02 02 05", api.ErrEnd}, {"30 03 02 02 05 06", api.ErrEnd},
		{"30 02 9f 1f 00", api.ErrEnd}, {"30 01 9f 1f 00", api.ErrEnd}, {"30 02 04 81 80", api.ErrEnd},
		{"30 04 02 00 07 00", api.ErrValue}, {"30 04 07 00 02 00", api.ErrTag}, {"30 05 05 00 07 00 80", api.ErrTag}, {"30 04 07 00 05 80", api.ErrTag},
		{"07 02 02 00", api.ErrTag}, {"30 05 02 01", api.ErrEnd}, {"30 80 02 00", api.ErrLength}, {"30 02 02 00 00", api.ErrValue}, {"30 02 05 00 05 00", api.ErrMore},
		// The order of a set, behind its kids' errors, ahead of what is behind it.
		{"31 03 02 01 05", api.OK}, {"31 06 02 01 01 02 01 02", api.OK}, {"31 06 02 01 02 02 01 02", api.OK}, {"31 06 02 01 ff 02 01 01", api.ErrOrder},
		{"31 08 02 01 02 02 01 01 02 00", api.ErrValue}, {"31 06 02 01 02 02 01 01 00", api.ErrOrder}, {"31 07 02 01 7f 02 02 00 80", api.OK}, {"31 07 02 02 00 80 02 01 7f", api.ErrOrder},
		{"31 04 05 00 04 00", api.ErrOrder}, {"31 04 04 00 05 00", api.OK}, {"31 05 04 01 00 04 00", api.ErrOrder}, {"31 05 04 00 04 01 00", api.OK},
		{"30 06 02 01 02 02 01 01", api.OK}, {"b1 06 02 01 02 02 01 01", api.OK}, {"71 06 02 01 02 02 01 01", api.OK},
		{"31 09 9f ff 7f 00 9f 81 80 00 00", api.ErrOrder}, {"31 09 9f 81 80 00 00 9f ff 7f 00", api.OK},
		{"30 0a 31 06 02 01 02 02 01 01 02 00", api.ErrOrder},
		{"31 10 30 06 02 01 05 02 01 03 30 06 02 01 05 02 01 02", api.ErrOrder}, {"31 10 30 06 02 01 05 02 01 02 30 06 02 01 05 02 01 03", api.OK},
		{"31 0e 30 05 02 01 05 05 00 30 05 02 01 05 04 00", api.ErrOrder}, {"31 0e 30 05 02 01 05 04 00 30 05 02 01 05 05 00", api.OK},
	} {
		b := unhex(t, x.in)
		if e := checkRead(t, b); e != x.want {
			t.Errorf("%s: %d, not %d", x.in, e, x.want)
		}
	}
}

// P9.1: what is read, part by part.
func TestReadValues(t *testing.T) {
	five := Value{Tag: 2, Bytes: []byte{5}}
	for in, want := range map[string]Value{
		"02 01 05":                             five,
		"30 03 02 01 05":                       {Tag: 16, Made: true, Kids: []Value{five}},
		"31 00":                                {Tag: 17, Made: true},
		"a3 05 02 01 05 05 00":                 {Class: 2, Tag: 3, Made: true, Kids: []Value{five, {Tag: 5}}},
		"5e 02 00 01":                          {Class: 1, Tag: 30, Bytes: []byte{0, 1}},
		"df 1f 01 00":                          {Class: 3, Tag: 31, Bytes: []byte{0}},
		"ff ff ff 7f 02 05 00":                 {Class: 3, Tag: 2097151, Made: true, Kids: []Value{{Tag: 5}}},
		"9f 81 00 00":                          {Class: 2, Tag: 128},
		"9f ff 7f 00":                          {Class: 2, Tag: 16383},
		"9f 81 80 00 00":                       {Class: 2, Tag: 16384},
		"30 05 30 03 02 01 05":                 {Tag: 16, Made: true, Kids: []Value{{Tag: 16, Made: true, Kids: []Value{five}}}},
		"04 81 80" + strings.Repeat("5a", 128): {Tag: 4, Bytes: bytes.Repeat([]byte{0x5a}, 128)},
	} {
		b := unhex(t, in)
		if v, e := Read(b); e != api.OK || !same(v, want) {
			t.Errorf("%s: %+v, %d", in, v, e)
		}
		if w, e := Write(want); e != api.OK || !bytes.Equal(w, b) {
			t.Errorf("%+v: %x, %d", want, w, e)
		}
	}
}

// P9.1: just at the most bytes, and one more: ahead of all that is wrong.
func TestReadBig(t *testing.T) {
	b := append([]byte{4, 0x82, 0xff, 0xfc}, make([]byte, 65532)...)
	if e := checkRead(t, b); e != api.OK || len(b) != api.MaxBytes {
		t.Error(e)
	}
	for _, big := range [][]byte{append(b, 0), make([]byte, 65537), append([]byte{4, 0x83, 1, 0, 0}, make([]byte, 65536)...)} {
		if e := checkRead(t, big); e != api.ErrBig {
			t.Error(len(big), e)
		}
	}
	if e := checkRead(t, append([]byte{4, 0x83, 1, 0, 0}, make([]byte, 65531)...)); e != api.ErrEnd {
		t.Error(e)
	}
	if e := checkRead(t, make([]byte, 65536)); e != api.ErrTag {
		t.Error(e)
	}
}

// deep is b within so many sequences.
func deep(b []byte, within int) []byte {
	for range within {
		b = append(slowHead(Value{Tag: 16, Made: true}, len(b)), b...)
	}
	return b
}

// P9.1: a value within as many others as may be, and within one more: ahead of all that is wrong in it.
func TestReadDeep(t *testing.T) {
	for _, inner := range []string{"05 00", "30 00", "02", "00", "9f 80", "05 80", "05 05", "02 00", "05 00 05 00"} {
		for _, within := range []int{15, 16, 17, 18, 40} {
			e := checkRead(t, deep(unhex(t, inner), within))
			if within > api.MaxDepth != (e == api.ErrDeep) {
				t.Errorf("%s within %d: %d", inner, within, e)
			}
		}
	}
	if e := checkRead(t, deep(nil, 17)); e != api.OK {
		t.Error(e)
	}
	if e := checkRead(t, deep(nil, 18)); e != api.ErrDeep {
		t.Error(e)
	}
	falls := unhex(t, "31 06 02 01 02 02 01 01")
	if e := checkRead(t, deep(falls, 15)); e != api.ErrOrder {
		t.Error(e)
	}
	if e := checkRead(t, deep(falls, 16)); e != api.ErrDeep {
		t.Error(e)
	}
}

// P9.1, P9.3: all bytes of at most two, and those of three and four that begin in all ways.
func TestReadShort(t *testing.T) {
	checkRead(t, nil)
	few := []byte{0, 1, 2, 0x1e, 0x1f, 0x20, 0x5a, 0x7f, 0x80, 0x81, 0x82, 0xc3, 0xff}
	for a := range 256 {
		checkRead(t, []byte{byte(a)})
		for b := range 256 {
			checkRead(t, []byte{byte(a), byte(b)})
			for _, c := range few {
				checkRead(t, []byte{byte(a), byte(b), c})
				checkRead(t, []byte{byte(a), byte(b), c, 0})
				checkRead(t, []byte{byte(a), byte(b), c, 0x85})
			}
		}
	}
}

// bent is b with something changed in it.
func bent(r *rand.Rand, b []byte) []byte {
	b = bytes.Clone(b)
	for range 1 + r.Intn(3) {
		if len(b) == 0 {
			return b
		}
		i := r.Intn(len(b))
		switch r.Intn(6) {
		case 0:
			b = append(b[:i], b[i+1:]...)
		case 1:
			b = append(b[:i], append([]byte{byte(r.Intn(256))}, b[i:]...)...)
		case 2:
			b = b[:i]
		case 3:
			b[i] ^= 1 << r.Intn(8)
		case 4:
			b[i] += byte(r.Intn(3)) - 1
		default:
			b[i] = []byte{0, 0x1f, 0x7f, 0x80, 0x81, 0xff, 0x30, 0x31, 2, 5}[r.Intn(10)]
		}
	}
	return b
}

// P9.1, P9.3: values of all kinds, as they are and bent.
func TestReadBent(t *testing.T) {
	r := rand.New(rand.NewSource(9))
	hits := map[api.Errno]int{}
	for range 20000 {
		b, e := slowWrite(drawn(r, 1+r.Intn(4)))
		if e != api.OK {
			t.Fatal(e)
		}
		if e := checkRead(t, b); e != api.OK {
			t.Fatalf("%x: %d", b, e)
		}
		hits[checkRead(t, bent(r, b))]++
	}
	for _, e := range []api.Errno{api.OK, api.ErrEnd, api.ErrTag, api.ErrLength, api.ErrValue, api.ErrOrder, api.ErrMore} {
		if hits[e] < 20 {
			t.Errorf("%d came %d times alone", e, hits[e])
		}
	}
}

// P9.1: what is read is what the standard library reads.
func TestReadAsLibrary(t *testing.T) {
	r := rand.New(rand.NewSource(10))
	for range 5000 {
		b, _ := slowWrite(drawn(r, 1+r.Intn(4)))
		v, e := Read(b)
		if e != api.OK {
			t.Fatal(e)
		}
		asLibrary(t, v, b)
	}
}

// asLibrary holds v and its kids against what the library makes of b, which v begins, and tells what is behind it.
func asLibrary(t *testing.T, v Value, b []byte) []byte {
	t.Helper()
	var raw asn1.RawValue
	rest, err := asn1.Unmarshal(b, &raw)
	if err != nil || raw.Class != v.Class || raw.Tag != v.Tag || raw.IsCompound != v.Made {
		t.Fatalf("%x: %+v, %+v, %v", b, v, raw, err)
	}
	if !v.Made {
		if !bytes.Equal(raw.Bytes, v.Bytes) {
			t.Fatalf("%x: %+v, %+v", b, v, raw)
		}
		return rest
	}
	inner := raw.Bytes
	for _, kid := range v.Kids {
		inner = asLibrary(t, kid, inner)
	}
	if len(inner) > 0 {
		t.Fatalf("%x: more in it than its kids", b)
	}
	return rest
}
