package cert

import (
	"bytes"
	"math/rand"
	"testing"

	"chancery/api"
	"chancery/der"
	"chancery/name"
)

// bentValue is v with something changed somewhere in it; of bytes that are a value in bytes, sometimes within these.
func bentValue(r *rand.Rand, v der.Value) der.Value {
	if v.Made && len(v.Kids) > 0 && !chance(r, 6) {
		v.Kids = append([]der.Value{}, v.Kids...)
		i := r.Intn(len(v.Kids))
		v.Kids[i] = bentValue(r, v.Kids[i])
		return v
	}
	if in, e := der.Read(v.Bytes); v.Tag == 4 && e == api.OK && !chance(r, 6) {
		if b, e := der.Write(bentValue(r, in)); e == api.OK {
			v.Bytes = b
			return v
		}
	}
	if v.Made {
		return bentMade(r, v)
	}
	return bentBytes(r, v)
}

// bentMade is v with its tag or its kids changed.
func bentMade(r *rand.Rand, v der.Value) der.Value {
	v.Kids = append([]der.Value{}, v.Kids...)
	i := r.Intn(max(1, len(v.Kids)))
	switch r.Intn(7) {
	case 0:
		v.Class, v.Tag = 2, r.Intn(5)
	case 1:
		v.Class, v.Tag = 0, 16+r.Intn(2)
	case 2:
		if len(v.Kids) > 0 {
			v.Kids = append(v.Kids[:i], v.Kids[i+1:]...)
		}
	case 3:
		if len(v.Kids) > 0 {
			v.Kids = append(v.Kids, v.Kids[i])
		}
	case 4:
		r.Shuffle(len(v.Kids), func(i, j int) { v.Kids[i], v.Kids[j] = v.Kids[j], v.Kids[i] })
	case 5:
		v.Kids = append(v.Kids, drawnValue(r))
	case 6:
		v = der.Value{Tag: 16, Made: true, Kids: []der.Value{v}}
	}
	return v
}

// bentBytes is v with its tag or its bytes changed.
func bentBytes(r *rand.Rand, v der.Value) der.Value {
	v.Bytes = bytes.Clone(v.Bytes)
	i := r.Intn(max(1, len(v.Bytes)))
	switch r.Intn(5) {
	case 0:
		v.Class, v.Tag = pick(r, 0, 2), pick(r, 1, 2, 3, 4, 6, 10, 12, 19, 22)
	case 1:
		if len(v.Bytes) > 0 {
			v.Bytes[i] ^= 1 << r.Intn(8)
		}
	case 2:
		v.Bytes = append(v.Bytes, byte(r.Intn(256)))
	case 3:
		v.Bytes = v.Bytes[:i]
	case 4:
		return drawnValue(r)
	}
	return v
}

// drawnValue is a value that may stand somewhere.
func drawnValue(r *rand.Rand) der.Value {
	t, _ := name.TimeValue(drawnMoment(r))
	g, _ := drawnGeneral(r, false).Value(false)
	d, _ := drawnDN(r).Value()
	oid, _ := name.OidValue(pick(r, "2.999.1.4", "2.999.1.3", "2.999.1.10", "2.16.840.1.101.3.4.3.20", "2.5.29.19", "2.5.29.15"))
	return pick(r, t, g, d, oid,
		der.Value{Tag: 1, Bytes: []byte{pick[byte](r, 0, 255)}},
		der.Value{Tag: 2, Bytes: []byte{byte(r.Intn(256))}},
		der.Value{Tag: 2, Bytes: unhex(pick(r, "3f ff ff ff ff ff ff ff", "40 00 00 00 00 00 00 00", "7f ff ff ff ff ff ff ff", "00 ff ff ff ff ff ff ff ff", "01 00 00 00 00 00 00 00 01", "ff 7f"))},
		der.Value{Tag: 10, Bytes: []byte{byte(r.Intn(12))}},
		der.Value{Tag: 3, Bytes: []byte{0, 1}},
		der.Value{Tag: 4, Bytes: drawnBytes(r, 32)},
		der.Value{Tag: 5},
		der.Value{Tag: 16, Made: true},
		der.Value{Class: 2, Tag: r.Intn(4), Made: true},
		der.Value{Class: 2, Tag: r.Intn(4), Made: true, Kids: []der.Value{{Tag: 2, Bytes: []byte{byte(r.Intn(128))}}}},
	)
}

// P11.2: signed things with a value bent somewhere, and read as all kinds.
func TestReadBentValues(t *testing.T) {
	r := rand.New(rand.NewSource(3))
	for _, k := range kinds {
		seen := map[api.Errno]int{}
		for range 4000 {
			b, e := k.draw(r).Encode()
			if e != api.OK || len(b) > 4000 && !chance(r, 20) {
				continue
			}
			v, _ := der.Read(b)
			for range 1 + r.Intn(2) {
				v = bentValue(r, v)
			}
			if b, e = der.Write(v); e == api.OK {
				seen[checkParse(t, k, b)]++
			}
		}
		if seen[api.OK] < 300 || seen[api.ErrForm] < 1000 {
			t.Errorf("%s: %v", k.name, seen)
		}
	}
}

// P11.2: signed things with bytes changed, cut off and put behind: layer 9's errors ahead of ErrForm.
func TestReadBentBytes(t *testing.T) {
	r := rand.New(rand.NewSource(4))
	for _, k := range kinds {
		seen := map[api.Errno]int{}
		for range 4000 {
			b, e := k.draw(r).Encode()
			if e != api.OK || len(b) > 4000 {
				continue
			}
			at := r.Intn(len(b))
			if chance(r, 2) {
				at = r.Intn(min(40, len(b)))
			}
			switch r.Intn(6) {
			case 0:
				b = b[:at]
			case 1:
				b = append(b, byte(at))
			case 2:
				b[at] = byte(r.Intn(256))
			default:
				b[at] ^= 1 << r.Intn(8)
			}
			seen[checkParse(t, k, b)]++
		}
		for _, e := range []api.Errno{api.OK, api.ErrForm, api.ErrEnd, api.ErrTag, api.ErrLength, api.ErrValue, api.ErrMore} {
			if seen[e] < 10 {
				t.Errorf("%s: %d came %d times alone", k.name, e, seen[e])
			}
		}
	}
}

// P11.2: no kind is another one.
func TestReadOtherKinds(t *testing.T) {
	r := rand.New(rand.NewSource(5))
	for range 100 {
		for _, k := range kinds {
			b, e := k.draw(r).Encode()
			if e != api.OK {
				continue
			}
			for _, other := range kinds {
				want := api.ErrForm
				if other.name == k.name {
					want = api.OK
				}
				if e := checkParse(t, other, b); e != want {
					t.Fatalf("a %s as a %s: %d", k.name, other.name, e)
				}
			}
		}
	}
}

// P11.2: what is no signed thing at all, and layer 9's errors of it.
func TestReadNothing(t *testing.T) {
	big := tlv(0x30, make([]byte, 65537))
	for in, want := range map[string]api.Errno{
		"":                              api.ErrEnd,
		"30":                            api.ErrEnd,
		"30 00":                         api.ErrForm,
		"05 00":                         api.ErrForm,
		"05 00 00":                      api.ErrMore,
		"30 80 00 00":                   api.ErrLength,
		"30 04 02 02 00 05":             api.ErrValue,
		"9f 1e 00":                      api.ErrTag,
		"31 06 02 01 02 02 01 01":       api.ErrOrder,
		"30 06 30 00 30 00 30 00":       api.ErrForm,
		"30 07 30 00 30 00 03 01 00":    api.ErrForm,
		"30 09 30 00 30 00 03 01 00 05": api.ErrEnd,
		"04 00":                         api.ErrForm,
		"30 02 30 00":                   api.ErrForm,
		"30 02 03 00":                   api.ErrValue,
		"a0 00":                         api.ErrForm,
	} {
		for _, k := range kinds {
			if e := checkParse(t, k, unhex(in)); e != want {
				t.Errorf("%s as a %s: %d, not %d", in, k.name, e, want)
			}
			if e := checkParse(t, k, big); e != api.ErrBig {
				t.Errorf("too much as a %s: %d", k.name, e)
			}
		}
	}
	deep := unhex("05 00")
	for range 17 {
		deep = seq(deep)
	}
	for _, k := range kinds {
		if e := checkParse(t, k, deep); e != api.ErrDeep {
			t.Errorf("too deep as a %s: %d", k.name, e)
		}
		if e := checkParse(t, k, deep[2:]); e != api.ErrForm {
			t.Errorf("deep as a %s: %d", k.name, e)
		}
	}
}
