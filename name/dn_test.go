package name

import (
	"bytes"
	"crypto/x509/pkix"
	"encoding/asn1"
	"math/rand"
	"strings"
	"testing"

	"chancery/api"
	"chancery/der"
)

func checkParseDN(t *testing.T, v der.Value) api.Errno {
	t.Helper()
	d, e := ParseDN(v)
	want, wantE := slowParseDN(v)
	if !sameDN(d, want) || e != wantE {
		t.Fatalf("%+v: %q, %d, not %q, %d", v, d, e, want, wantE)
	}
	if e != api.OK {
		return e
	}
	if back, f := d.Value(); f != api.OK || !same(back, v) {
		t.Fatalf("%+v is read as %q, which is written as %+v, %d", v, d, back, f)
	}
	return e
}

func checkDN(t *testing.T, d DN) api.Errno {
	t.Helper()
	v, e := d.Value()
	want, wantE := slowDN(d)
	if !same(v, want) || e != wantE {
		t.Fatalf("%q: %+v, %d, not %+v, %d", d, v, e, want, wantE)
	}
	if e != api.OK {
		return e
	}
	if back, f := ParseDN(v); f != api.OK || !sameDN(back, d) || !writable(v) {
		t.Fatalf("%q is written as %+v, which is read as %q, %d", d, v, back, f)
	}
	return e
}

func printable(s string) der.Value { return der.Value{Tag: 19, Bytes: []byte(s)} }

func utf(s string) der.Value { return der.Value{Tag: 12, Bytes: []byte(s)} }

var cn = oidOf([]byte{85, 4, 3})

// attr is the value of an attribute with that text.
func attr(text der.Value) der.Value { return set(seq(cn, text)) }

// times is a list of n of one thing.
func times[T any](n int, x T) []T {
	var all []T
	for range n {
		all = append(all, x)
	}
	return all
}

// P10.3: a DN and its bytes, written down.
func TestDNInBytes(t *testing.T) {
	d := DN{{"2.5.4.3", "a b"}, {"2.5.4.10", "\u00e9"}, {"2.999.1", "x*"}}
	want := unhex(t, "30 28 31 0c 30 0a 06 03 55 04 03 13 03 61 20 62 31 0b 30 09 06 03 55 04 0a 0c 02 c3 a9 31 0b 30 09 06 03 88 37 01 0c 02 78 2a")
	v, e := d.Value()
	if b, f := der.Write(v); e != api.OK || f != api.OK || !bytes.Equal(b, want) {
		t.Errorf("%x, not %x", b, want)
	}
	read, _ := der.Read(want)
	if back, f := ParseDN(read); f != api.OK || !sameDN(back, d) {
		t.Error(back, f)
	}
	if v, e := (DN{}).Value(); e != api.OK || !same(v, seq()) {
		t.Error(v, e)
	}
	if d, e := ParseDN(seq()); e != api.OK || len(d) != 0 {
		t.Error(d, e)
	}
}

// P10.3: the library's names of one printable or UTF-8 text a set are the same bytes.
func TestDNOfTheLibrary(t *testing.T) {
	d := DN{{"2.5.4.6", "AT"}, {"2.5.4.10", "A (b), c."}, {"2.5.4.11", "\u00fcber"}, {"2.5.4.3", "root_1"}}
	var rdns pkix.RDNSequence
	for _, a := range d {
		v, _ := OidValue(a.Type)
		var oid asn1.ObjectIdentifier
		b, _ := der.Write(v)
		if _, err := asn1.Unmarshal(b, &oid); err != nil {
			t.Fatal(err)
		}
		rdns = append(rdns, pkix.RelativeDistinguishedNameSET{{Type: oid, Value: a.Text}})
	}
	want, err := asn1.Marshal(rdns)
	if err != nil {
		t.Fatal(err)
	}
	v, _ := d.Value()
	if b, e := der.Write(v); e != api.OK || !bytes.Equal(b, want) {
		t.Errorf("%x, not %x", b, want)
	}
}

// P10.3: the errors of a value, the form's ahead of all texts'.
func TestParseDNErrors(t *testing.T) {
	ok := attr(printable("a"))
	bad := attr(printable(""))
	nested := printable("a")
	for range 17 {
		nested = seq(nested)
	}
	for i, x := range []struct {
		v    der.Value
		want api.Errno
	}{
		{seq(), api.OK}, {seq(ok), api.OK}, {seq(ok, ok), api.OK}, {seq(times(16, ok)...), api.OK}, {seq(times(17, ok)...), api.ErrForm},
		{der.Value{}, api.ErrForm}, {set(), api.ErrForm}, {set(ok), api.ErrForm}, {printable("a"), api.ErrForm}, {cn, api.ErrForm}, {ok, api.ErrForm},
		{der.Value{Class: 2, Tag: 16, Made: true}, api.ErrForm}, {der.Value{Class: 1, Tag: 16, Made: true, Kids: []der.Value{ok}}, api.ErrForm}, {der.Value{Tag: 16}, api.ErrForm},
		{der.Value{Tag: 16, Made: true, Bytes: []byte{1}}, api.ErrForm}, {der.Value{Tag: 16, Bytes: []byte{1}}, api.ErrForm},
		// The sets and their one sequence.
		{seq(seq(seq(cn, printable("a")))), api.ErrForm}, {seq(set()), api.ErrForm}, {seq(seq()), api.ErrForm}, {seq(set(seq(cn, printable("a")), seq(cn, printable("b")))), api.ErrForm},
		{seq(set(seq(cn, printable("a")), seq(cn, printable("a")))), api.ErrForm}, {seq(set(cn, printable("a"))), api.ErrForm}, {seq(set(set(cn, printable("a")))), api.ErrForm}, {seq(set(cn)), api.ErrForm},
		{seq(der.Value{Class: 2, Tag: 17, Made: true, Kids: ok.Kids}), api.ErrForm}, {seq(set(der.Value{Class: 2, Tag: 16, Made: true, Kids: ok.Kids[0].Kids})), api.ErrForm},
		// The oid and the text.
		{seq(set(seq())), api.ErrForm}, {seq(set(seq(cn))), api.ErrForm}, {seq(set(seq(printable("a")))), api.ErrForm}, {seq(set(seq(printable("a"), cn))), api.ErrForm}, {seq(set(seq(cn, printable("a"), printable("a")))), api.ErrForm},
		{seq(set(seq(cn, cn))), api.ErrForm}, {seq(set(seq(printable("a"), printable("a")))), api.ErrForm}, {seq(set(seq(oidOf(bytes.Repeat([]byte{1}, 20)), printable("a")))), api.ErrForm}, {seq(set(seq(oidOf(slowGroup(1<<40)), printable("a")))), api.ErrForm},
		{attrSeq(der.Value{Tag: 4, Bytes: []byte("a")}), api.ErrForm}, {attrSeq(der.Value{Tag: 22, Bytes: []byte("a")}), api.ErrForm}, {attrSeq(der.Value{Class: 2, Tag: 19, Bytes: []byte("a")}), api.ErrForm},
		{attrSeq(der.Value{Class: 1, Tag: 12, Bytes: []byte("a*")}), api.ErrForm}, {attrSeq(der.Value{Class: 2, Tag: 12, Made: true}), api.ErrForm}, {attrSeq(seq(printable("a"))), api.ErrForm}, {attrSeq(der.Value{Tag: 5}), api.ErrForm},
		{seq(set(seq(der.Value{Class: 2, Tag: 6, Bytes: []byte{85, 4, 3}}, printable("a")))), api.ErrForm},
		// What layer 9 can't write.
		{attrSeq(printable("*")), api.ErrForm}, {attrSeq(utf("\xff")), api.ErrForm}, {attrSeq(utf("a\x80")), api.ErrForm}, {seq(set(seq(oidOf(nil), printable("a")))), api.ErrForm}, {seq(set(seq(oidOf([]byte{0x80}), printable("a")))), api.ErrForm},
		{attrSeq(der.Value{Tag: 19, Bytes: []byte("a"), Kids: []der.Value{{Tag: 5}}}), api.ErrForm}, {der.Value{Tag: 16, Made: true, Bytes: []byte{0}, Kids: []der.Value{ok}}, api.ErrForm}, {seq(nested), api.ErrForm},
		{attrSeq(printable(strings.Repeat("a", 65536))), api.ErrForm}, {seq(times(16, attr(printable(strings.Repeat("a", 4096))))...), api.ErrForm}, {attrSeq(printable(strings.Repeat("a", 65000))), api.ErrName},
		// The texts.
		{attrSeq(printable("")), api.ErrName}, {attrSeq(utf("")), api.ErrName}, {attrSeq(printable(strings.Repeat("a", 64))), api.OK}, {attrSeq(printable(strings.Repeat("a", 65))), api.ErrName},
		{attrSeq(utf(strings.Repeat("*", 64))), api.OK}, {attrSeq(utf(strings.Repeat("*", 65))), api.ErrName}, {attrSeq(utf(strings.Repeat("\u00e9", 32))), api.OK}, {attrSeq(utf(strings.Repeat("\u00e9", 32) + "a")), api.ErrName},
		{attrSeq(utf("a")), api.ErrName}, {attrSeq(utf("A z09'()+,-./:=?")), api.ErrName}, {attrSeq(printable("A z09'()+,-./:=?")), api.OK}, {attrSeq(utf("a*")), api.OK}, {attrSeq(utf("a@b")), api.OK}, {attrSeq(utf("\u00e9")), api.OK}, {attrSeq(utf("\ufffd")), api.OK}, {attrSeq(utf("\x00")), api.OK},
		{attrSeq(utf("\u0141")), api.OK}, {attrSeq(utf("\U00010041")), api.OK},
		{seq(ok, bad), api.ErrName}, {seq(bad, ok), api.ErrName}, {seq(append(times(15, ok), bad)...), api.ErrName}, {seq(ok, attr(utf("a")), ok), api.ErrName},
		// The form goes ahead of the texts, wherever they stand.
		{seq(bad, set()), api.ErrForm}, {seq(set(), bad), api.ErrForm}, {seq(bad, set(seq(cn, cn))), api.ErrForm}, {seq(times(17, bad)...), api.ErrForm}, {seq(bad, attr(printable("*"))), api.ErrForm}, {seq(attr(utf("a")), set(seq(oidOf(slowGroup(1<<40)), printable("a")))), api.ErrForm},
	} {
		if e := checkParseDN(t, x.v); e != x.want {
			t.Errorf("%d: %+v: %d, not %d", i, x.v, e, x.want)
		}
	}
}

func attrSeq(text der.Value) der.Value { return seq(attr(text)) }

// P10.3: the errors of a DN, the count and the oids ahead of all texts.
func TestDNErrors(t *testing.T) {
	ok := Attr{"2.5.4.3", "a"}
	for i, x := range []struct {
		d    DN
		want api.Errno
	}{
		{nil, api.OK}, {DN{}, api.OK}, {DN{ok}, api.OK}, {DN{ok, ok}, api.OK}, {times(16, ok), api.OK}, {times(17, ok), api.ErrForm}, {times(1000, ok), api.ErrForm}, {times(17, Attr{}), api.ErrForm}, {times(16, Attr{"2.5.4.3", ""}), api.ErrName},
		{DN{{}}, api.ErrForm}, {DN{{"", "a"}}, api.ErrForm}, {DN{{"x", "a"}}, api.ErrForm}, {DN{{"1", "a"}}, api.ErrForm}, {DN{{"1.40", "a"}}, api.ErrForm}, {DN{{"2.5.4.03", "a"}}, api.ErrForm}, {DN{{"1" + strings.Repeat(".1", 20), "a"}}, api.ErrForm}, {DN{{"1" + strings.Repeat(".1", 19), "a"}}, api.OK},
		{DN{{"2.5.4.3", ""}}, api.ErrName}, {DN{{"2.5.4.3", strings.Repeat("a", 64)}}, api.OK}, {DN{{"2.5.4.3", strings.Repeat("a", 65)}}, api.ErrName}, {DN{{"2.5.4.3", strings.Repeat("\u00e9", 32)}}, api.OK}, {DN{{"2.5.4.3", strings.Repeat("\u00e9", 33)}}, api.ErrName}, {DN{{"2.5.4.3", strings.Repeat("a", 100000)}}, api.ErrName},
		{DN{{"2.5.4.3", "\xff"}}, api.ErrName}, {DN{{"2.5.4.3", "a\xc3"}}, api.ErrName}, {DN{{"2.5.4.3", "\xed\xa0\x80"}}, api.ErrName}, {DN{{"2.5.4.3", "\xc0\x80"}}, api.ErrName}, {DN{{"2.5.4.3", "\ufffd"}}, api.OK}, {DN{{"2.5.4.3", "\x00"}}, api.OK},
		{DN{ok, {"2.5.4.3", ""}}, api.ErrName}, {DN{{"2.5.4.3", ""}, ok}, api.ErrName}, {DN{{"2.5.4.3", ""}, {"x", "a"}}, api.ErrForm}, {DN{{"x", "a"}, {"2.5.4.3", ""}}, api.ErrForm}, {DN{{"x", ""}}, api.ErrForm}, {append(times(15, ok), Attr{"3.1", "a"}), api.ErrForm},
		{times(16, Attr{"2" + strings.Repeat(".1099511627695", 19), strings.Repeat("*", 64)}), api.OK},
	} {
		if e := checkDN(t, x.d); e != x.want {
			t.Errorf("%d: %q: %d, not %d", i, x.d, e, x.want)
		}
	}
}

// P10.3: each byte, and each rune of two bytes, as a text alone and behind a letter.
func TestDNKindOfText(t *testing.T) {
	for c := range rune(0x800) {
		for _, text := range []string{string(c), "a" + string(c), string([]byte{byte(c)}), "a" + string([]byte{byte(c)})} {
			checkDN(t, DN{{"2.5.4.3", text}})
			checkParseDN(t, attrSeq(printable(text)))
			checkParseDN(t, attrSeq(utf(text)))
		}
	}
}

func drawnText(r *rand.Rand) string {
	runes := []rune("abcXYZ019 '()+,-./:=?*@_\x00\u00e9\u0141\u20ac\ufffd\U0001f600")
	letters := 12
	if r.Intn(2) == 0 {
		letters = len(runes)
	}
	text := string(runes[r.Intn(letters)])
	for range r.Intn(12) {
		text += string(runes[r.Intn(letters)])
	}
	return text
}

func drawnDN(r *rand.Rand) DN {
	var d DN
	for range r.Intn(5) {
		d = append(d, Attr{drawnOid(r), drawnText(r)})
	}
	return d
}

// bentDN is a DN with something changed in it.
func bentDN(r *rand.Rand, d DN) DN {
	d = append(DN(nil), d...)
	if len(d) == 0 {
		return d
	}
	i := r.Intn(len(d))
	switch r.Intn(5) {
	case 0:
		d[i].Type = bentText(r, d[i].Type)
	case 1:
		d[i].Text = bentText(r, d[i].Text)
	case 2:
		d[i].Text = ""
	case 3:
		d[i].Text = strings.Repeat(d[i].Text, 1+r.Intn(9))
	default:
		d = append(d[:i:i], times(r.Intn(18), d[i])...)
	}
	return d
}

// bentValue is a value with something changed in it.
func bentValue(r *rand.Rand, v der.Value) der.Value {
	v.Kids = append([]der.Value(nil), v.Kids...)
	if len(v.Kids) > 0 && r.Intn(6) > 0 {
		i := r.Intn(len(v.Kids))
		v.Kids[i] = bentValue(r, v.Kids[i])
		return v
	}
	switch r.Intn(8) {
	case 0:
		v.Class = r.Intn(4)
	case 1:
		v.Tag = []int{6, 12, 16, 17, 19, 22, 23, 1, 2, 4, 7}[r.Intn(11)]
	case 2:
		v.Made = !v.Made
	case 3:
		v.Bytes = []byte(bentText(r, string(v.Bytes)))
	case 4:
		v.Bytes = bytes.Repeat(v.Bytes, r.Intn(12))
	case 5:
		v.Kids = v.Kids[:max(0, len(v.Kids)-1)]
	case 6:
		v.Kids = append(v.Kids, printable("a"))
	default:
		v.Kids = append(v.Kids, v.Kids...)
	}
	return v
}

// P10.3: DNs and their values, as they are and bent.
func TestDNsDrawn(t *testing.T) {
	r := rand.New(rand.NewSource(5))
	read, written := map[api.Errno]int{}, map[api.Errno]int{}
	for range 20000 {
		d := drawnDN(r)
		if e := checkDN(t, d); e != api.OK {
			t.Fatalf("%q: %d", d, e)
		}
		v, _ := d.Value()
		written[checkDN(t, bentDN(r, d))]++
		read[checkParseDN(t, bentValue(r, v))]++
		read[checkParseDN(t, bentValue(r, bentValue(r, v)))]++
	}
	for _, e := range []api.Errno{api.OK, api.ErrForm, api.ErrName} {
		if read[e] < 300 || written[e] < 300 {
			t.Errorf("%d came %d and %d times alone", e, read[e], written[e])
		}
	}
}

// P10.3: DNs that are alike, and that aren't: in length, order, type and text.
func TestSameDN(t *testing.T) {
	a, b, c := Attr{"2.5.4.3", "a"}, Attr{"2.5.4.3", "A"}, Attr{"2.5.4.4", "a"}
	all := []DN{{}, {a}, {b}, {c}, {a, a}, {a, b}, {b, a}, {a, c}, {c, a}, {a, b, c}, {{"2.5.4.3", "a "}}, {{"2.5.4.3", ""}}, {{"", ""}}, {{"x", "\xff"}}, {{"a", "2.5.4.3"}}}
	for i, x := range all {
		for j, y := range all {
			if got := SameDN(x, append(DN(nil), y...)); got != (i == j) {
				t.Errorf("%q and %q: %v", x, y, got)
			}
		}
	}
	if !SameDN(nil, DN{}) || !SameDN(DN{}, nil) || !SameDN(nil, nil) || SameDN(nil, DN{{}}) {
		t.Error("nil and empty are one")
	}
}
