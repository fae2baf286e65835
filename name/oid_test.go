package name

import (
	"bytes"
	"encoding/asn1"
	"encoding/hex"
	"math/rand"
	"strconv"
	"strings"
	"testing"

	"chancery/der"
)

func unhex(t *testing.T, s string) []byte {
	t.Helper()
	b, err := hex.DecodeString(strings.ReplaceAll(s, " ", ""))
	if err != nil {
		t.Fatal(err)
	}
	return b
}

// checkOid holds Oid against the slow one, and its text against the value that it means.
func checkOid(t *testing.T, v der.Value) bool {
	t.Helper()
	s, ok := Oid(v)
	want, wantOK := slowOid(v)
	if s != want || ok != wantOK {
		t.Fatalf("%+v: %q, %v, not %q, %v", v, s, ok, want, wantOK)
	}
	if !ok {
		return false
	}
	if back, is := OidValue(s); !is || !same(back, v) {
		t.Fatalf("%q of %x is %x, %v", s, v.Bytes, back.Bytes, is)
	}
	return true
}

// checkOidValue holds OidValue against the slow one, and its value against the text that it has.
func checkOidValue(t *testing.T, s string) bool {
	t.Helper()
	v, ok := OidValue(s)
	want, wantOK := slowOidValue(s)
	if !same(v, want) || ok != wantOK {
		t.Fatalf("%q: %+v, %v, not %+v, %v", s, v, ok, want, wantOK)
	}
	if !ok {
		return false
	}
	if back, is := Oid(v); !is || back != s || !writable(v) {
		t.Fatalf("%q is %x, which is %q, %v", s, v.Bytes, back, is)
	}
	return true
}

func oidOf(b []byte) der.Value { return der.Value{Tag: 6, Bytes: b} }

// P10.1: texts and bytes that are each other's.
func TestOidsBothWays(t *testing.T) {
	for in, text := range map[string]string{
		"2a 86 48": "1.2.840", "2a 86 48 01": "1.2.840.1",
		"2a 86 48 86 f7 0d": "1.2.840.113549", "60 86 48 01 65 03 04 03 11": "2.16.840.1.101.3.4.3.17", "55 04 03": "2.5.4.3", "55 1d 13": "2.5.29.19",
		"00": "0.0", "27": "0.39", "28": "1.0", "4f": "1.39", "50": "2.0", "77": "2.39", "78": "2.40", "7f": "2.47", "81 00": "2.48", "88 37": "2.999", "88 37 01 04": "2.999.1.4",
		"2a 00": "1.2.0", "2a 7f": "1.2.127", "2a 81 00": "1.2.128", "2a ff 7f": "1.2.16383", "2a 81 80 00": "1.2.16384", "2a 00 00 00": "1.2.0.0.0",
		"9f ff ff ff ff 7f": "2.1099511627695", "2a 9f ff ff ff ff 7f": "1.2.1099511627775", "2a 9f ff ff ff ff 7f 01": "1.2.1099511627775.1",
		"2a 03 04 05 06 07 08 09 0a 0b 0c 0d 0e 0f 10 11 12 13 14": "1.2.3.4.5.6.7.8.9.10.11.12.13.14.15.16.17.18.19.20",
	} {
		v := oidOf(unhex(t, in))
		if s, ok := Oid(v); !ok || s != text {
			t.Errorf("%s: %q, %v", in, s, ok)
		}
		if w, ok := OidValue(text); !ok || !same(w, v) {
			t.Errorf("%s: %x, %v", text, w.Bytes, ok)
		}
		checkOid(t, v)
		checkOidValue(t, text)
	}
}

// P10.1: values that are no oid, and oids that have no text.
func TestOidRefuses(t *testing.T) {
	for _, v := range []der.Value{
		{}, {Tag: 6}, {Tag: 5}, {Tag: 2, Bytes: []byte{42}}, {Tag: 4, Bytes: []byte{42}}, {Tag: 13, Bytes: []byte{42}},
		{Class: 1, Tag: 6, Bytes: []byte{42}}, {Class: 2, Tag: 6, Bytes: []byte{42}}, {Class: 3, Tag: 6, Bytes: []byte{42}}, {Class: -1, Tag: 6, Bytes: []byte{42}}, {Class: 4, Tag: 6, Bytes: []byte{42}},
		{Tag: 6, Made: true}, {Tag: 6, Made: true, Bytes: []byte{42}}, {Tag: 6, Bytes: []byte{42}, Kids: []der.Value{{Tag: 5}}}, {Tag: 6, Made: true, Kids: []der.Value{oidOf([]byte{42})}}, seq(oidOf([]byte{42})),
		oidOf([]byte{0x80}), oidOf([]byte{0x80, 1}), oidOf([]byte{42, 0x80, 1}), oidOf([]byte{42, 0x81}), oidOf([]byte{0x81}),
		oidOf(unhex(t, "a0 80 80 80 80 00")), oidOf(unhex(t, "2a a0 80 80 80 80 00")), oidOf(unhex(t, "a0 80 80 80 80 00 01")), oidOf(unhex(t, "2a 81 80 80 80 80 80 00")),
		oidOf(unhex(t, "2a 81 80 80 80 80 80 80 80 80 80 00")), oidOf(append([]byte{42}, append(bytes.Repeat([]byte{0xff}, 40), 0x7f)...)), oidOf(unhex(t, "2a 82 80 80 80 80 80 80 80 80 01")),
		oidOf(bytes.Repeat([]byte{1}, 20)), oidOf(bytes.Repeat([]byte{1}, 21)), oidOf(bytes.Repeat([]byte{1}, 70000)),
	} {
		if s, ok := Oid(v); ok || s != "" {
			t.Errorf("%+v: %q, %v", v, s, ok)
		}
		checkOid(t, v)
	}
	for n := 1; n < 23; n++ {
		if ok := checkOid(t, oidOf(bytes.Repeat([]byte{1}, n))); ok != (n < 20) {
			t.Errorf("%d groups: %v", n, ok)
		}
	}
	if !checkOid(t, der.Value{Tag: 6, Bytes: []byte{42}, Kids: []der.Value{}}) {
		t.Error("an empty list is none")
	}
}

// P10.1: texts that are no oid's.
func TestOidValueRefuses(t *testing.T) {
	for _, s := range []string{
		"", ".", "1", "1.", ".1", "1..2", "1.2.", ".1.2", "1.2..3", "0", "2", "00.1", "01.2", "1.02", "1.2.00", "1.2.03", "3.1", "3.0", "10.1", "22.1",
		"0.40", "1.40", "0.41", "1.1099511627775", "0.1099511627775", "2.1099511627696", "2.1099511627775", "2.1099511627776", "1.2.1099511627776", "1.2.10000000000000",
		"1.2.-3", "1.+2", "+1.2", "-1.2", "1.2.+3", "1.2 ", " 1.2", "1. 2", "1,2", "1.2.a", "1.2.0x3", "1.2.1_0", "1.2.1e3", "1.2\n", "1.2.\x00", "1.2.3\x80", "\xff1.2", "1.2.\u0663", "1.2.\uff13", "\u0661.2",
		"1.2.18446744073709551616", "1.2.18446744073709551617", "1.2.18446744073709551617.3", "4294967297.2", "18446744073709551617.2", "1.18446744073709551618", "2.18446744073709551616",
		"1.2." + strings.Repeat("9", 1000), "1.2." + strings.Repeat("0", 1000), strings.Repeat("1.", 1000) + "1", strings.Repeat(".", 1000), strings.Repeat("1.", 20) + "1", strings.Repeat("1.", 20), strings.Repeat("1.", 19),
	} {
		if v, ok := OidValue(s); ok || !isZero(v) {
			t.Errorf("%q: %+v, %v", s, v, ok)
		}
		checkOidValue(t, s)
	}
	for n := range 24 {
		if ok := checkOidValue(t, "1"+strings.Repeat(".1", n)); ok != (n >= 1 && n < 20) {
			t.Errorf("%d numbers: %v", n+1, ok)
		}
	}
}

// P10.1: all short texts of what oids are made of and a little more.
func TestOidValueShort(t *testing.T) {
	hits := 0
	var all func(s string, left int)
	all = func(s string, left int) {
		if checkOidValue(t, s) {
			hits++
		}
		if left == 0 {
			return
		}
		for _, c := range []string{"0", "1", "2", "3", "4", "9", ".", "-", "x"} {
			all(s+c, left-1)
		}
	}
	all("", 5)
	if hits < 300 {
		t.Error(hits)
	}
}

// P10.1: all bytes of at most two, many of three, and every first group near the borders.
func TestOidShort(t *testing.T) {
	for a := range 256 {
		checkOid(t, oidOf([]byte{byte(a)}))
		for b := range 256 {
			checkOid(t, oidOf([]byte{byte(a), byte(b)}))
			for _, c := range []byte{0, 1, 0x7f, 0x80, 0x81, 0xff} {
				checkOid(t, oidOf([]byte{byte(a), byte(b), c}))
			}
		}
	}
	for n := int64(0); n < 300; n++ {
		for _, g := range []int64{n, 1<<40 - 150 + n, 1<<14 - 150 + n, 1<<21 - 150 + n, 1<<28 - 150 + n, 1<<35 - 150 + n} {
			if ok := checkOid(t, oidOf(slowGroup(g))); ok != (g < 1<<40) {
				t.Errorf("%d: %v", g, ok)
			}
			if ok := checkOid(t, oidOf(append([]byte{42}, slowGroup(g)...))); ok != (g < 1<<40) {
				t.Errorf("%d: %v", g, ok)
			}
			for first := range 4 {
				checkOidValue(t, strconv.Itoa(first)+"."+strconv.FormatInt(g, 10))
			}
		}
	}
}

// drawnNumber is a number of some length in bits, often at an edge.
func drawnNumber(r *rand.Rand, most int) int {
	return max(0, r.Intn(1<<r.Intn(most+1))+r.Intn(3)-1)
}

func drawnOid(r *rand.Rand) string {
	first := r.Intn(3)
	parts := []string{strconv.Itoa(first), strconv.Itoa(r.Intn(40))}
	if first == 2 {
		parts[1] = strconv.Itoa(drawnNumber(r, 39))
	}
	for range r.Intn(19) {
		parts = append(parts, strconv.Itoa(drawnNumber(r, 39)))
	}
	return strings.Join(parts, ".")
}

// bentText is a text with something changed in it.
func bentText(r *rand.Rand, s string) string {
	more := []string{"", "0", "1", "9", ".", "..", "-", "a", "Z", "@", "/", ":", "://", "?", "#", " ", "\x00", "\x7f", "\x80", "\xff", "\u00e9", "\u212a", "_", "*"}
	for range 1 + r.Intn(2) {
		i := r.Intn(len(s) + 1)
		j := i + r.Intn(min(2, len(s)-i)+1)
		s = s[:i] + more[r.Intn(len(more))] + s[j:]
	}
	return s
}

// P10.1: oids of all lengths, as they are and bent.
func TestOidsDrawn(t *testing.T) {
	r := rand.New(rand.NewSource(1))
	kept := 0
	for range 20000 {
		s := drawnOid(r)
		if !checkOidValue(t, s) {
			t.Fatal(s)
		}
		if checkOidValue(t, bentText(r, s)) {
			kept++
		}
		v, _ := OidValue(s)
		b := bytes.Clone(v.Bytes)
		b[r.Intn(len(b))] ^= 1 << r.Intn(8)
		checkOid(t, oidOf(b))
	}
	if kept < 1000 {
		t.Error(kept)
	}
}

// P10.1: the library takes the same bytes for the same numbers.
func TestOidsOfTheLibrary(t *testing.T) {
	r := rand.New(rand.NewSource(2))
	for range 2000 {
		o := asn1.ObjectIdentifier{r.Intn(3), r.Intn(40)}
		for range r.Intn(10) {
			o = append(o, drawnNumber(r, 30))
		}
		want, err := asn1.Marshal(o)
		if err != nil {
			t.Fatal(err)
		}
		v, ok := OidValue(o.String())
		b, _ := der.Write(v)
		if !ok || !bytes.Equal(b, want) {
			t.Fatalf("%s: %x, not %x", o, b, want)
		}
	}
}
