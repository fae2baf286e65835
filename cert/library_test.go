package cert

import (
	"bytes"
	"crypto/x509"
	"encoding/asn1"
	"math/big"
	"math/rand"
	"net"
	"strings"
	"testing"
	"time"

	"chancery/api"
	"chancery/name"
)

// The library's X.509 knows certificates of this form; its ASN.1 is told the form of the others.

// plainNames are names that the library takes as they are.
func plainNames(r *rand.Rand, limit bool) []name.General {
	var all []name.General
	for range r.Intn(4) {
		switch r.Intn(4) {
		case 0:
			all = append(all, name.General{Kind: 1, Text: pick(r, "u@a.example", "v.w@b.example")})
		case 1:
			all = append(all, name.General{Kind: 2, Text: pick(r, "a.example", "b.example", "c.d.example")})
		case 2:
			all = append(all, name.General{Kind: 6, Text: pick(r, "http://a.example/b", "x://c.d.example")})
		case 3:
			all = append(all, name.General{Kind: 7, Text: pick(r, "\x0a\x01\x02\x03", strings.Repeat("\x20", 16))})
		}
		if last := &all[len(all)-1]; limit {
			*last = limitOf(*last)
		}
	}
	return all
}

// limitOf is a limit in which a name lies.
func limitOf(n name.General) name.General {
	switch n.Kind {
	case 6:
		n.Text = "a.example"
	case 7:
		n.Text += strings.Repeat("\xff", len(n.Text))
	}
	return n
}

func plainCert(r *rand.Rand) Cert {
	c := Cert{Serial: max(1, drawnNumber(r)), Scheme: 4 + r.Intn(6), Issuer: ca, Subject: name.DN{{Type: "2.5.4.3", Text: "x"}, {Type: "2.5.4.10", Text: "\u00e9"}}, From: drawnMoment(r), To: drawnMoment(r), KeyScheme: 4 + r.Intn(6), Key: drawnKey(r), Path: -1, Usage: r.Intn(512), Sig: drawnKey(r)}
	if chance(r, 2) {
		c.CA, c.Path = true, pick(r, -1, 0, 1, 5, 1000)
	}
	c.Alt, c.Permit, c.Exclude = plainNames(r, false), plainNames(r, true), plainNames(r, true)
	return c
}

// textsOf are the texts of the names of a Kind.
func textsOf(list []name.General, kind int) []string {
	var all []string
	for _, g := range list {
		if g.Kind == kind {
			all = append(all, g.Text)
		}
	}
	return all
}

func sameTexts(got, want []string) bool { return strings.Join(got, "\n") == strings.Join(want, "\n") }

func ranges(nets []*net.IPNet) []string {
	var all []string
	for _, n := range nets {
		all = append(all, string(n.IP)+string(n.Mask))
	}
	return all
}

// P11.1: what the library reads of certificates is what was written.
func TestLibraryReadsCerts(t *testing.T) {
	r := rand.New(rand.NewSource(6))
	for range 2000 {
		c := plainCert(r)
		b, e := c.Encode()
		if e != api.OK {
			t.Fatal(e)
		}
		x, err := x509.ParseCertificate(b)
		if err != nil {
			t.Fatalf("%+v: %v", c, err)
		}
		tbs, _ := c.Tbs()
		if !bytes.Equal(x.RawTBSCertificate, tbs) || !bytes.Equal(x.Signature, c.Sig) || x.Version != 3 || x.SerialNumber.Cmp(big.NewInt(int64(c.Serial))) != 0 {
			t.Fatalf("%+v: %+v", c, x)
		}
		if x.NotBefore.Unix() != int64(c.From) || x.NotAfter.Unix() != int64(c.To) || x.Issuer.CommonName != "ca" || x.Subject.Organization[0] != "\u00e9" {
			t.Fatalf("%+v: %+v", c, x)
		}
		path := x.MaxPathLen
		if c.CA && c.Path == -1 && path != -1 || c.CA && c.Path >= 0 && (path != c.Path || x.MaxPathLenZero != (c.Path == 0)) || x.IsCA != c.CA || x.BasicConstraintsValid != c.CA || int(x.KeyUsage) != c.Usage {
			t.Fatalf("%+v: %+v", c, x)
		}
		checkLibraryNames(t, c, x)
	}
}

func checkLibraryNames(t *testing.T, c Cert, x *x509.Certificate) {
	t.Helper()
	var uris, ips []string
	for _, u := range x.URIs {
		uris = append(uris, u.String())
	}
	for _, ip := range x.IPAddresses {
		ips = append(ips, string(ip))
	}
	for i, pair := range [][2][]string{
		{x.EmailAddresses, textsOf(c.Alt, 1)}, {x.DNSNames, textsOf(c.Alt, 2)}, {uris, textsOf(c.Alt, 6)}, {ips, textsOf(c.Alt, 7)},
		{x.PermittedEmailAddresses, textsOf(c.Permit, 1)}, {x.PermittedDNSDomains, textsOf(c.Permit, 2)}, {x.PermittedURIDomains, textsOf(c.Permit, 6)}, {ranges(x.PermittedIPRanges), textsOf(c.Permit, 7)},
		{x.ExcludedEmailAddresses, textsOf(c.Exclude, 1)}, {x.ExcludedDNSDomains, textsOf(c.Exclude, 2)}, {x.ExcludedURIDomains, textsOf(c.Exclude, 6)}, {ranges(x.ExcludedIPRanges), textsOf(c.Exclude, 7)},
	} {
		if !sameTexts(pair[0], pair[1]) {
			t.Fatalf("%d: %q, not %q", i, pair[0], pair[1])
		}
	}
	if x.PermittedDNSDomainsCritical != (len(c.Permit)+len(c.Exclude) > 0) || len(x.UnhandledCriticalExtensions) > 0 {
		t.Fatalf("%+v: %+v", c, x)
	}
}

// The forms of the others, as the library's ASN.1 is told them.
type (
	libraryScheme struct{ Oid asn1.ObjectIdentifier }
	libraryKey    struct {
		Scheme libraryScheme
		Key    asn1.BitString
	}
	libraryRequest struct {
		Version int
		Subject asn1.RawValue
		Key     libraryKey
		Alt     []asn1.RawValue `asn1:"optional,omitempty,tag:0"`
	}
	libraryEntry struct {
		Serial int64
		At     time.Time
		Reason asn1.Enumerated
	}
	libraryList struct {
		Version    int
		Scheme     libraryScheme
		Issuer     asn1.RawValue
		This, Next time.Time
		Entries    []libraryEntry `asn1:"optional,omitempty"`
		Number     int64          `asn1:"explicit,tag:0"`
	}
	libraryWhen struct {
		At     time.Time
		Reason asn1.Enumerated
	}
	libraryGood struct {
		Key    []byte
		Serial int64
		Status asn1.Enumerated
		This   time.Time
	}
	libraryRevoked struct {
		Key    []byte
		Serial int64
		Status asn1.Enumerated
		This   time.Time
		When   libraryWhen `asn1:"explicit,tag:0"`
	}
	libraryHead struct {
		Size int64
		Time time.Time
		Root []byte
	}
	librarySigned struct {
		Thing  asn1.RawValue
		Scheme libraryScheme
		Sig    asn1.BitString
	}
)

func librarySchemeOf(n int) libraryScheme {
	if n > 3 {
		return libraryScheme{asn1.ObjectIdentifier{2, 999, 1, n}}
	}
	return libraryScheme{asn1.ObjectIdentifier{2, 16, 840, 1, 101, 3, 4, 3, 16 + n}}
}

func libraryBits(b []byte) asn1.BitString { return asn1.BitString{Bytes: b, BitLength: 8 * len(b)} }

func libraryRaw(b []byte) asn1.RawValue { return asn1.RawValue{FullBytes: b} }

func libraryTime(t int) time.Time { return time.Unix(int64(t), 0).UTC() }

func libraryThing(x thing) (thing any, scheme int, sig []byte) {
	s := &slow{}
	switch x := x.(type) {
	case Request:
		v := libraryRequest{Subject: libraryRaw(s.dn(x.Subject)), Key: libraryKey{librarySchemeOf(x.KeyScheme), libraryBits(x.Key)}}
		for _, g := range x.Alt {
			v.Alt = append(v.Alt, libraryRaw(s.value(g.Value(false))))
		}
		return v, x.Scheme, x.Sig
	case List:
		v := libraryList{Version: 1, Scheme: librarySchemeOf(x.Scheme), Issuer: libraryRaw(s.dn(x.Issuer)), This: libraryTime(x.This), Next: libraryTime(x.Next), Number: int64(x.Number)}
		for _, e := range x.Entries {
			v.Entries = append(v.Entries, libraryEntry{int64(e.Serial), libraryTime(e.At), asn1.Enumerated(e.Reason)})
		}
		return v, x.Scheme, x.Sig
	case Answer:
		if x.Status != 1 {
			return libraryGood{x.Key, int64(x.Serial), asn1.Enumerated(x.Status), libraryTime(x.This)}, x.Scheme, x.Sig
		}
		return libraryRevoked{x.Key, int64(x.Serial), 1, libraryTime(x.This), libraryWhen{libraryTime(x.At), asn1.Enumerated(x.Reason)}}, x.Scheme, x.Sig
	case Head:
		return libraryHead{int64(x.Size), libraryTime(x.Time), x.Root}, x.Scheme, x.Sig
	}
	panic("no such thing")
}

// P11.1: what the library writes of requests, lists, answers and heads.
func TestLibraryWritesOthers(t *testing.T) {
	r := rand.New(rand.NewSource(7))
	for range 1000 {
		for _, k := range kinds[1:] {
			x := k.draw(r)
			b, e := x.Encode()
			if e == api.ErrBig {
				continue
			}
			thing, scheme, sig := libraryThing(x)
			tbs, err := asn1.Marshal(thing)
			if err != nil {
				t.Fatal(err)
			}
			if got, _ := x.Tbs(); !bytes.Equal(got, tbs) {
				t.Fatalf("%+v: %x, not %x", x, got, tbs)
			}
			want, err := asn1.Marshal(librarySigned{libraryRaw(tbs), librarySchemeOf(scheme), libraryBits(sig)})
			if err != nil || e != api.OK || !bytes.Equal(b, want) {
				t.Fatalf("%+v: %x, %d, not %x, %v", x, b, e, want, err)
			}
		}
	}
}
