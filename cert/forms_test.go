package cert

import (
	"encoding/hex"
	"strings"
	"testing"

	"chancery/api"
	"chancery/name"
	"chancery/scheme"
)

const (
	hexFirst = "30 0b 06 09 60 86 48 01 65 03 04 03 11"
	hexNinth = "30 06 06 04 88 37 01 09"

	extBasic  = "30 0f 06 03 55 1d 13 01 01 ff 04 05 30 03 01 01 ff"
	extUsage  = "30 0e 06 03 55 1d 0f 01 01 ff 04 04 03 02 07 80"
	extAlt    = "30 0c 06 03 55 1d 11 04 05 30 03 82 01 61"
	extLimits = "30 13 06 03 55 1d 1e 01 01 ff 04 09 30 07 a0 05 30 03 82 01 61"
)

// laid is a sequence of parts in hexadecimal digits.
func laid(parts ...string) []byte {
	var all []byte
	for _, p := range parts {
		all = append(all, unhex(p)...)
	}
	return seq(all)
}

// laidCert is a certificate with parts in place of those that it has, by their number, and parts behind.
func laidCert(changed map[int]string, behind ...string) []byte {
	parts := []string{"a0 03 02 01 02", "02 01 01", hexFirst, hexCA, "30 1e" + hexEpoch + hexEpoch, hexX, "30 0d" + hexNinth + "03 03 00 01 02"}
	for i, p := range changed {
		parts[i] = p
	}
	return seq(laid(append(parts, behind...)...), unhex(hexFirst), unhex("03 02 00 09"))
}

// withExtensions is a certificate with these.
func withExtensions(extensions ...string) []byte {
	return laidCert(nil, hex.EncodeToString(tlv(0xa3, laid(extensions...))))
}

// form is bytes, and what reading them answers.
type form struct {
	b    []byte
	want api.Errno
}

func checkForms(t *testing.T, k kind, forms []form) {
	t.Helper()
	for i, f := range forms {
		if e := checkParse(t, k, f.b); e != f.want {
			t.Errorf("%d: %x: %d, not %d", i, f.b, e, f.want)
		}
	}
}

// P11.2: certificates with one part wrong that layer 9 takes.
func TestCertForms(t *testing.T) {
	at := func(i int, part string) []byte { return laidCert(map[int]string{i: part}) }
	checkForms(t, kinds[0], []form{
		{laidCert(nil), api.OK},
		// The version.
		{at(0, "a0 03 02 01 01"), api.ErrForm}, {at(0, "a0 03 02 01 03"), api.ErrForm}, {at(0, ""), api.ErrForm}, {at(0, "02 01 02"), api.ErrForm}, {at(0, "a1 03 02 01 02"), api.ErrForm}, {at(0, "a0 06 02 01 02 02 01 02"), api.ErrForm}, {at(0, "a0 03 0a 01 02"), api.ErrForm}, {at(0, "a0 00"), api.ErrForm}, {at(0, "80 01 02"), api.ErrForm},
		// The serial.
		{at(1, "02 01 00"), api.ErrForm}, {at(1, "02 01 ff"), api.ErrForm}, {at(1, "02 02 ff 7f"), api.ErrForm}, {at(1, "0a 01 01"), api.ErrForm}, {at(1, "02 08 3f ff ff ff ff ff ff ff"), api.OK}, {at(1, "02 08 40 00 00 00 00 00 00 00"), api.ErrForm}, {at(1, "02 09 00 80 00 00 00 00 00 00 00"), api.ErrForm}, {at(1, "02 09 01 00 00 00 00 00 00 00 01"), api.ErrForm}, {at(1, "02 02 00 80"), api.OK}, {at(1, "04 01 01"), api.ErrForm}, {at(1, "05 00"), api.ErrForm}, {at(1, "82 01 01"), api.ErrForm},
		// The scheme: another one than the signature's, and none.
		{at(2, hexNinth), api.ErrForm}, {at(2, "30 06 06 04 88 37 01 0a"), api.ErrForm}, {at(2, "30 06 06 04 88 37 01 01"), api.ErrForm}, {at(2, "30 0d 06 09 60 86 48 01 65 03 04 03 11 05 00"), api.ErrForm}, {at(2, "06 09 60 86 48 01 65 03 04 03 11"), api.ErrForm}, {at(2, "30 00"), api.ErrForm}, {at(2, "31 0b 06 09 60 86 48 01 65 03 04 03 11"), api.ErrForm},
		// DNs, times and the key.
		{at(3, "30 00"), api.OK}, {at(3, "05 00"), api.ErrForm}, {at(3, "30 0c 31 0a 30 08 06 03 55 04 03 0c 01 78"), api.ErrForm}, {at(3, "30 0b 31 09 30 07 06 03 55 04 03 13 00"), api.ErrForm}, {at(5, "30 02 31 00"), api.ErrForm}, {at(5, "30 00"), api.OK},
		{at(4, "30 0f"+hexEpoch), api.ErrForm}, {at(4, "30 2d"+hexEpoch+hexEpoch+hexEpoch), api.ErrForm}, {at(4, hexEpoch+hexEpoch), api.ErrForm}, {at(4, "30 20"+hexEpoch+"18 0f 32 30 34 39 30 31 30 31 30 30 30 30 30 30 5a"), api.ErrForm}, {at(4, "30 20"+hexEpoch+"18 0f 32 30 35 30 30 31 30 31 30 30 30 30 30 30 5a"), api.OK}, {at(4, "30 1e 17 0d 36 39 30 31 30 31 30 30 30 30 30 30 5a"+hexEpoch), api.ErrForm},
		{at(6, "30 0b"+hexNinth+"03 01 00"), api.OK}, {at(6, "30 0c"+hexNinth+"03 02 01 02"), api.ErrForm}, {at(6, "30 08"+hexNinth), api.ErrForm}, {at(6, "30 0f"+hexNinth+"03 03 00 01 02 05 00"), api.ErrForm}, {at(6, "30 0c"+hexNinth+"04 02 00 01"), api.ErrForm}, {at(6, "30 0d 30 06 06 04 88 37 01 0a 03 03 00 01 02"), api.ErrForm}, {at(6, ""), api.ErrForm},
		// What is behind.
		{laidCert(nil, "05 00"), api.ErrForm}, {laidCert(nil, "a3 00"), api.ErrForm}, {laidCert(nil, "a3 02 30 00"), api.ErrForm}, {laidCert(nil, "a2 13 30 11"+extBasic), api.ErrForm}, {laidCert(nil, "a3 13 30 11"+extBasic), api.OK}, {laidCert(nil, "a3 11"+extBasic), api.ErrForm}, {laidCert(nil, "30 11"+extBasic), api.ErrForm}, {laidCert(nil, "a3 15 30 11"+extBasic+"05 00"), api.ErrForm}, {laidCert(nil, "a3 26 30 11"+extBasic+"30 11"+extBasic), api.ErrForm}, {laidCert(nil, "a3 13 30 11"+extBasic, "05 00"), api.ErrForm},
	})
}

// P11.2: the extensions of a certificate, in other forms and orders.
func TestExtensionForms(t *testing.T) {
	checkForms(t, kinds[0], []form{
		{withExtensions(extBasic, extUsage, extAlt, extLimits), api.OK}, {withExtensions(extUsage), api.OK}, {withExtensions(extAlt), api.OK}, {withExtensions(extLimits), api.OK}, {withExtensions(extBasic, extLimits), api.OK}, {withExtensions(extUsage, extAlt), api.OK},
		// Out of order, twice, and others.
		{withExtensions(extUsage, extBasic), api.ErrForm}, {withExtensions(extLimits, extAlt), api.ErrForm}, {withExtensions(extAlt, extUsage), api.ErrForm}, {withExtensions(extBasic, extBasic), api.ErrForm}, {withExtensions(extAlt, extAlt), api.ErrForm}, {withExtensions(extBasic, extUsage, extAlt, extLimits, extLimits), api.ErrForm},
		{withExtensions("30 08 06 03 55 1d 0e 04 01 05"), api.ErrForm}, {withExtensions("30 09 06 03 55 1d 0e 04 02 05 00"), api.ErrForm}, {withExtensions(extBasic, "30 09 06 03 55 1d 0e 04 02 05 00"), api.ErrForm}, {withExtensions("05 00"), api.ErrForm}, {withExtensions("30 00"), api.ErrForm}, {withExtensions("30 05 06 03 55 1d 13"), api.ErrForm},
		// True where it must not stand, false, and none where it must.
		{withExtensions("30 0c 06 03 55 1d 13 04 05 30 03 01 01 ff"), api.ErrForm}, {withExtensions("30 0f 06 03 55 1d 13 01 01 00 04 05 30 03 01 01 ff"), api.ErrForm}, {withExtensions("30 0f 06 03 55 1d 11 01 01 ff 04 05 30 03 82 01 61"), api.ErrForm}, {withExtensions("30 0f 06 03 55 1d 11 01 01 00 04 05 30 03 82 01 61"), api.ErrForm}, {withExtensions("30 0b 06 03 55 1d 0f 04 04 03 02 07 80"), api.ErrForm}, {withExtensions("30 10 06 03 55 1d 1e 04 09 30 07 a0 05 30 03 82 01 61"), api.ErrForm}, {withExtensions("30 12 06 03 55 1d 13 01 01 ff 01 01 ff 04 05 30 03 01 01 ff"), api.ErrForm},
		// Bytes that are no value, or more than one; or not bytes.
		{withExtensions("30 0e 06 03 55 1d 13 01 01 ff 04 04 30 03 01 01"), api.ErrForm}, {withExtensions("30 11 06 03 55 1d 13 01 01 ff 04 07 30 03 01 01 ff 05 00"), api.ErrForm}, {withExtensions("30 0a 06 03 55 1d 13 01 01 ff 04 00"), api.ErrForm}, {withExtensions("30 0f 06 03 55 1d 13 01 01 ff 0c 05 30 03 01 01 7f"), api.ErrForm}, {withExtensions("30 11 06 03 55 1d 13 01 01 ff 04 05 30 03 01 01 ff 05 00"), api.ErrForm},
		// What an authority's tells.
		{withExtensions("30 0c 06 03 55 1d 13 01 01 ff 04 02 30 00"), api.ErrForm}, {withExtensions("30 0f 06 03 55 1d 13 01 01 ff 04 05 30 03 01 01 00"), api.ErrForm}, {withExtensions("30 0f 06 03 55 1d 13 01 01 ff 04 05 30 03 02 01 01"), api.ErrForm}, {withExtensions("30 12 06 03 55 1d 13 01 01 ff 04 08 30 06 01 01 ff 02 01 00"), api.OK}, {withExtensions("30 12 06 03 55 1d 13 01 01 ff 04 08 30 06 01 01 ff 02 01 ff"), api.ErrForm}, {withExtensions("30 12 06 03 55 1d 13 01 01 ff 04 08 30 06 01 01 ff 0a 01 00"), api.ErrForm}, {withExtensions("30 15 06 03 55 1d 13 01 01 ff 04 0b 30 09 01 01 ff 02 01 00 02 01 00"), api.ErrForm}, {withExtensions("30 13 06 03 55 1d 13 01 01 ff 04 09 30 07 01 01 ff 02 02 00 80"), api.OK}, {withExtensions("30 1a 06 03 55 1d 13 01 01 ff 04 10 30 0e 01 01 ff 02 09 00 ff ff ff ff ff ff ff ff"), api.ErrForm},
		// Bits of the Usage: none, more than can be, noughts at the end.
		{withExtensions("30 0d 06 03 55 1d 0f 01 01 ff 04 03 03 01 00"), api.ErrForm}, {withExtensions("30 0e 06 03 55 1d 0f 01 01 ff 04 04 03 02 00 80"), api.ErrForm}, {withExtensions("30 0e 06 03 55 1d 0f 01 01 ff 04 04 03 02 06 80"), api.ErrForm}, {withExtensions("30 0e 06 03 55 1d 0f 01 01 ff 04 04 03 02 07 00"), api.ErrForm}, {withExtensions("30 0f 06 03 55 1d 0f 01 01 ff 04 05 03 03 07 80 80"), api.OK}, {withExtensions("30 0f 06 03 55 1d 0f 01 01 ff 04 05 03 03 07 80 00"), api.ErrForm}, {withExtensions("30 0f 06 03 55 1d 0f 01 01 ff 04 05 03 03 06 80 c0"), api.ErrForm}, {withExtensions("30 0f 06 03 55 1d 0f 01 01 ff 04 05 03 03 06 80 40"), api.ErrForm}, {withExtensions("30 10 06 03 55 1d 0f 01 01 ff 04 06 03 04 07 80 80 80"), api.ErrForm}, {withExtensions("30 0e 06 03 55 1d 0f 01 01 ff 04 04 04 02 07 80"), api.ErrForm},
		// Names and limits.
		{withExtensions("30 09 06 03 55 1d 11 04 02 30 00"), api.ErrForm}, {withExtensions("30 0b 06 03 55 1d 11 04 04 30 02 82 00"), api.ErrForm}, {withExtensions("30 0a 06 03 55 1d 11 04 03 82 01 61"), api.ErrForm}, {withExtensions("30 0c 06 03 55 1d 11 04 05 30 03 83 01 61"), api.ErrForm}, {withExtensions("30 0c 06 03 55 1d 11 04 05 31 03 82 01 61"), api.ErrForm},
		{withExtensions("30 0c 06 03 55 1d 1e 01 01 ff 04 02 30 00"), api.ErrForm}, {withExtensions("30 0e 06 03 55 1d 1e 01 01 ff 04 04 30 02 a0 00"), api.ErrForm}, {withExtensions("30 15 06 03 55 1d 1e 01 01 ff 04 0b 30 09 a0 05 30 03 82 01 61 a1 00"), api.ErrForm}, {withExtensions("30 13 06 03 55 1d 1e 01 01 ff 04 09 30 07 a1 05 30 03 82 01 61"), api.OK}, {withExtensions("30 13 06 03 55 1d 1e 01 01 ff 04 09 30 07 a2 05 30 03 82 01 61"), api.ErrForm}, {withExtensions("30 11 06 03 55 1d 1e 01 01 ff 04 07 30 05 a0 03 82 01 61"), api.ErrForm}, {withExtensions("30 16 06 03 55 1d 1e 01 01 ff 04 0c 30 0a a0 08 30 06 82 01 61 80 01 00"), api.ErrForm},
		{withExtensions("30 1a 06 03 55 1d 1e 01 01 ff 04 10 30 0e a0 05 30 03 82 01 61 a1 05 30 03 82 01 61"), api.OK}, {withExtensions("30 1a 06 03 55 1d 1e 01 01 ff 04 10 30 0e a1 05 30 03 82 01 61 a0 05 30 03 82 01 61"), api.ErrForm}, {withExtensions("30 1a 06 03 55 1d 1e 01 01 ff 04 10 30 0e a0 05 30 03 82 01 61 a0 05 30 03 82 01 61"), api.ErrForm}, {withExtensions("30 12 06 03 55 1d 1e 01 01 ff 04 08 30 06 a0 04 30 02 82 00"), api.OK}, {withExtensions("30 14 06 03 55 1d 1e 01 01 ff 04 0a 30 08 a0 06 30 04 87 02 01 02"), api.ErrForm}, {withExtensions("30 0e 06 03 55 1d 1e 01 01 ff 04 04 30 02 80 00"), api.ErrForm},
	})
}

// P11.2: the signature, of all kinds.
func TestSignatureForms(t *testing.T) {
	for _, k := range kinds {
		x := signedBy(k, 3)
		thing, e := x.Tbs()
		if e != api.OK {
			t.Fatal(e)
		}
		own := map[string]string{"certificate": hexFirst, "list": "30 06 06 04 88 37 01 04"}[k.name]
		if own == "" {
			own = hexNinth
		}
		sig := unhex("03 04 00 01 02 03")
		other := api.OK
		if k.name == "certificate" || k.name == "list" {
			other = api.ErrForm
		}
		checkForms(t, k, []form{
			{seq(thing, unhex(own), sig), api.OK}, {seq(thing, unhex(own), unhex("03 01 00")), api.OK}, {seq(thing, unhex("30 06 06 04 88 37 01 05"), sig), other},
			{seq(thing, unhex(own)), api.ErrForm}, {seq(thing), api.ErrForm}, {seq(thing, sig), api.ErrForm}, {seq(thing, unhex(own), sig, sig), api.ErrForm}, {seq(unhex(own), thing, sig), api.ErrForm}, {tlv(0xa0, thing, unhex(own), sig), api.ErrForm}, {seq(seq(thing), unhex(own), sig), api.ErrForm},
			{seq(thing, unhex(own), unhex("03 02 01 02")), api.ErrForm}, {seq(thing, unhex(own), unhex("04 04 00 01 02 03")), api.ErrForm}, {seq(thing, unhex(own), unhex("83 04 00 01 02 03")), api.ErrForm}, {seq(thing, unhex(own), unhex("04 00")), api.ErrForm}, {seq(thing, unhex("30 06 06 04 88 37 01 0a"), sig), api.ErrForm}, {seq(thing, unhex("30 06 06 04 88 37 01 00"), sig), api.ErrForm}, {seq(thing, unhex("06 04 88 37 01 04"), sig), api.ErrForm}, {seq(thing, unhex("30 08 06 04 88 37 01 04 05 00"), sig), api.ErrForm}, {seq([]byte{0xa0}, thing[1:], unhex(own), sig), api.ErrForm},
		})
	}
}

// P11.2: requests, lists, answers and heads with one part wrong that layer 9 takes.
func TestOtherForms(t *testing.T) {
	behind := func(parts ...string) []byte { return seq(laid(parts...), unhex(hexNinth), unhex("03 02 00 09")) }
	key := "30 0d" + hexNinth + "03 03 00 01 02"
	checkForms(t, kinds[1], []form{
		{behind("02 01 00", hexCA, key), api.OK}, {behind("02 01 00", hexCA, key, "a0 03 82 01 61"), api.OK}, {behind("02 01 00", hexCA, key, "a0 00"), api.ErrForm}, {behind("02 01 01", hexCA, key), api.ErrForm}, {behind("02 01 ff", hexCA, key), api.ErrForm}, {behind("0a 01 00", hexCA, key), api.ErrForm}, {behind(hexCA, key), api.ErrForm}, {behind("02 01 00", key, hexCA), api.ErrForm}, {behind("02 01 00", hexCA, key, "a1 03 82 01 61"), api.ErrForm}, {behind("02 01 00", hexCA, key, "a0 05 30 03 82 01 61"), api.ErrForm}, {behind("02 01 00", hexCA, key, "30 03 82 01 61"), api.ErrForm}, {behind("02 01 00", hexCA, key, "a0 03 82 01 61", "05 00"), api.ErrForm}, {behind("02 01 00", hexCA, key, "a0 02 82 00"), api.ErrForm}, {behind("02 01 00", hexCA, key, "05 00"), api.ErrForm},
	})
	number, entry := "a0 03 02 01 05", "30 15 02 01 00"+hexEpoch+"0a 01 03"
	list := func(parts ...string) []byte {
		return behind(append([]string{"02 01 01", hexNinth, hexCA, hexEpoch, hexEpoch}, parts...)...)
	}
	checkForms(t, kinds[2], []form{
		{list(number), api.OK}, {list("30 17"+entry, number), api.OK}, {list("30 2e"+entry+entry, number), api.OK}, {list("30 00", number), api.ErrForm}, {list("30 17" + entry), api.ErrForm}, {list(), api.ErrForm}, {list(number, number), api.ErrForm}, {list(number, "30 17"+entry), api.ErrForm}, {list("30 17"+entry, "30 17"+entry, number), api.ErrForm}, {list("30 17"+entry, number, "05 00"), api.ErrForm}, {list("a1 03 02 01 05"), api.ErrForm}, {list("02 01 05"), api.ErrForm}, {list("a0 03 02 01 ff"), api.ErrForm}, {list("a0 00"), api.ErrForm}, {list("a0 06 02 01 05 02 01 05"), api.ErrForm}, {list("a0 05 30 03 02 01 05"), api.ErrForm},
		{list("30 17 30 15 02 01 00"+hexEpoch+"0a 01 0a", number), api.OK}, {list("30 17 30 15 02 01 00"+hexEpoch+"0a 01 0b", number), api.ErrForm}, {list("30 17 30 15 02 01 00"+hexEpoch+"0a 01 ff", number), api.ErrForm}, {list("30 17 30 15 02 01 00"+hexEpoch+"02 01 03", number), api.ErrForm}, {list("30 17 30 15 0a 01 00"+hexEpoch+"0a 01 03", number), api.ErrForm}, {list("30 17 30 15 02 01 ff"+hexEpoch+"0a 01 03", number), api.ErrForm}, {list("30 14 30 12 02 01 00"+hexEpoch, number), api.ErrForm}, {list("30 19 30 17 02 01 00"+hexEpoch+"0a 01 03 05 00", number), api.ErrForm}, {list("30 15 02 01 00"+hexEpoch+"0a 01 03", number), api.ErrForm}, {list("31 17"+entry, number), api.ErrForm}, {list("a1 17"+entry, number), api.ErrForm},
		{behind("02 01 00", hexNinth, hexCA, hexEpoch, hexEpoch, number), api.ErrForm}, {behind("02 01 02", hexNinth, hexCA, hexEpoch, hexEpoch, number), api.ErrForm}, {behind("02 01 01", hexFirst, hexCA, hexEpoch, hexEpoch, number), api.ErrForm}, {behind("02 01 01", hexNinth, hexCA, hexEpoch, number), api.ErrForm}, {behind("02 01 01", hexNinth, hexEpoch, hexEpoch, number), api.ErrForm},
	})
	hash, when := "04 20"+hexAA, "a0 14 30 12"+hexEpoch+"0a 01 06"
	checkForms(t, kinds[3], []form{
		{behind(hash, "02 01 00", "0a 01 00", hexEpoch), api.OK}, {behind(hash, "02 01 00", "0a 01 02", hexEpoch), api.OK}, {behind(hash, "02 01 00", "0a 01 01", hexEpoch, when), api.OK}, {behind(hash, "02 01 00", "0a 01 01", hexEpoch), api.ErrForm}, {behind(hash, "02 01 00", "0a 01 00", hexEpoch, when), api.ErrForm}, {behind(hash, "02 01 00", "0a 01 02", hexEpoch, when), api.ErrForm}, {behind(hash, "02 01 00", "0a 01 03", hexEpoch), api.ErrForm}, {behind(hash, "02 01 00", "0a 01 ff", hexEpoch), api.ErrForm}, {behind(hash, "02 01 00", "02 01 00", hexEpoch), api.ErrForm}, {behind(hash, "02 01 ff", "0a 01 00", hexEpoch), api.ErrForm},
		{behind("04 1f"+hexAA[3:], "02 01 00", "0a 01 00", hexEpoch), api.ErrForm}, {behind("04 21"+hexAA+"00", "02 01 00", "0a 01 00", hexEpoch), api.ErrForm}, {behind("0c 20"+strings.Repeat("7a", 32), "02 01 00", "0a 01 00", hexEpoch), api.ErrForm}, {behind("02 01 00", "0a 01 00", hexEpoch), api.ErrForm},
		{behind(hash, "02 01 00", "0a 01 01", hexEpoch, "a0 12"+hexEpoch+"0a 01 06"), api.ErrForm}, {behind(hash, "02 01 00", "0a 01 01", hexEpoch, "a1 14 30 12"+hexEpoch+"0a 01 06"), api.ErrForm}, {behind(hash, "02 01 00", "0a 01 01", hexEpoch, "a0 14 30 12"+hexEpoch+"0a 01 0b"), api.ErrForm}, {behind(hash, "02 01 00", "0a 01 01", hexEpoch, "a0 14 30 12"+hexEpoch+"02 01 06"), api.ErrForm}, {behind(hash, "02 01 00", "0a 01 01", hexEpoch, "a0 11 30 0f"+hexEpoch), api.ErrForm}, {behind(hash, "02 01 00", "0a 01 01", hexEpoch, when, when), api.ErrForm}, {behind(hash, "02 01 00", "0a 01 01", hexEpoch, "a0 16 30 14"+hexEpoch+"0a 01 06 05 00"), api.ErrForm}, {behind(hash, "02 01 00", "0a 01 01", hexEpoch, "a0 00"), api.ErrForm},
	})
	checkForms(t, kinds[4], []form{
		{behind("02 01 00", hexEpoch, hash), api.OK}, {behind("02 01 ff", hexEpoch, hash), api.ErrForm}, {behind("0a 01 00", hexEpoch, hash), api.ErrForm}, {behind("02 01 00", hash), api.ErrForm}, {behind("02 01 00", hash, hexEpoch), api.ErrForm}, {behind("02 01 00", hexEpoch), api.ErrForm}, {behind("02 01 00", hexEpoch, hash, "05 00"), api.ErrForm}, {behind("02 01 00", hexEpoch, "04 1f"+hexAA[3:]), api.ErrForm}, {behind("02 01 00", hexEpoch, "04 00"), api.ErrForm}, {behind("02 01 00", hexEpoch, "84 20"+hexAA), api.ErrForm}, {behind("02 01 00", "17 0d 36 39 30 31 30 31 30 30 30 30 30 30 5a", hash), api.ErrForm},
	})
}

// P11.2: lists of MaxList and of one more.
func TestLongLists(t *testing.T) {
	for n, want := range map[int]api.Errno{256: api.OK, 257: api.ErrForm, 1000: api.ErrForm} {
		s := &slow{}
		names := times(n, machine)
		dns := []byte{}
		for range n {
			dns = append(dns, s.value(machine.Value(false))...)
		}
		entry := seq(s.integer(1, 0), s.moment(2), s.choice(3, 10))
		entries := []byte{}
		for range n {
			entries = append(entries, entry...)
		}
		limits := s.limits(0xa0, names)
		alt := seq(unhex("06 03 55 1d 11"), tlv(4, seq(dns)))
		constraints := seq(unhex("06 03 55 1d 1e"), slowTrue, tlv(4, seq(limits)))
		other := seq(unhex("06 03 55 1d 1e"), slowTrue, tlv(4, seq(s.limits(0xa1, names))))
		for i, extension := range [][]byte{alt, constraints, other} {
			if e := checkParse(t, kinds[0], withExtensions(hex.EncodeToString(extension))); e != want {
				t.Errorf("%d of extension %d: %d", n, i, e)
			}
		}
		request := seq(seq(s.integer(0, 0), s.dn(nil), s.key(1, nil), tlv(0xa0, dns)), s.scheme(1), s.bits(nil))
		if e := checkParse(t, kinds[1], request); e != want {
			t.Errorf("%d names of a request: %d", n, e)
		}
		list := seq(seq(s.integer(1, 0), s.scheme(1), s.dn(nil), s.moment(1), s.moment(2), seq(entries), tlv(0xa0, s.integer(1, 0))), s.scheme(1), s.bits(nil))
		if e := checkParse(t, kinds[2], list); e != want {
			t.Errorf("%d entries: %d", n, e)
		}
	}
}

// P11.3: what was signed is verified over Tbs of what was parsed, and of nothing else.
func TestSignaturesHold(t *testing.T) {
	draw := make([]byte, 32)
	for _, n := range []int{1, 4, 9} {
		signer, e := scheme.Make(n, draw)
		if e != api.OK {
			t.Fatal(e)
		}
		c := fullCert()
		c.Scheme = n
		tbs, e := c.Tbs()
		if e != api.OK {
			t.Fatal(e)
		}
		c.Sig, _ = signer.Sign(0, tbs, draw)
		b, e := c.Encode()
		if e != api.OK {
			t.Fatal(e)
		}
		back, e := ParseCert(b)
		over, f := back.Tbs()
		if e != api.OK || f != api.OK || !scheme.Verify(back.Scheme, signer.Public(), over, back.Sig) {
			t.Errorf("scheme %d: the signature doesn't hold: %d, %d", n, e, f)
		}
		back.Subject = name.DN{{Type: "2.5.4.3", Text: "y"}}
		if over, _ = back.Tbs(); scheme.Verify(back.Scheme, signer.Public(), over, back.Sig) {
			t.Errorf("scheme %d: the signature holds for another one", n)
		}
	}
}
