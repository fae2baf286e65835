package cert

import (
	"bytes"
	"math"
	"strings"
	"testing"

	"chancery/api"
	"chancery/name"
)

var ca = name.DN{{Type: "2.5.4.3", Text: "ca"}}

// fullCert is a certificate in which nothing lacks.
func fullCert() Cert {
	return Cert{
		Serial: 300, Scheme: 1, Issuer: ca, Subject: name.DN{{Type: "2.5.4.3", Text: "x"}},
		From: 0, To: 2524608000, KeyScheme: 9, Key: []byte{1, 2}, CA: true, Path: 3, Usage: 0x161,
		Alt:     []name.General{{Kind: 2, Text: "a.b"}},
		Permit:  []name.General{{Kind: 2, Text: "b"}},
		Exclude: []name.General{{Kind: 1, Text: ".c"}, {Kind: 4}},
		Sig:     []byte{9},
	}
}

func fullRequest() Request {
	return Request{Subject: ca, KeyScheme: 2, Key: []byte{1}, Alt: []name.General{{Kind: 2, Text: "a"}, {Kind: 7, Text: "\x0a\x01\x02\x03"}}, Scheme: 4, Sig: []byte{3}}
}

func fullList() List {
	return List{Issuer: ca, Number: 5, This: 7, Next: 2524608000, Entries: []Entry{{0, 2, 3}, {128, 5, 10}}, Scheme: 4, Sig: []byte{7, 8}}
}

func fullAnswer() Answer {
	return Answer{Key: bytes.Repeat([]byte{0xaa}, 32), Serial: 0, Status: 1, This: 4, At: 2, Reason: 6, Scheme: 5}
}

func fullHead() Head {
	return Head{Size: 1 << 20, Time: 9, Root: bytes.Repeat([]byte{0xbb}, 32), Scheme: 3, Sig: []byte{7}}
}

const (
	hexCA    = "30 0d 31 0b 30 09 06 03 55 04 03 13 02 63 61"
	hexX     = "30 0c 31 0a 30 08 06 03 55 04 03 13 01 78"
	hexEpoch = "17 0d 37 30 30 31 30 31 30 30 30 30 30 30 5a"
	hexAA    = "aa aa aa aa aa aa aa aa aa aa aa aa aa aa aa aa aa aa aa aa aa aa aa aa aa aa aa aa aa aa aa aa"
	hexBB    = "bb bb bb bb bb bb bb bb bb bb bb bb bb bb bb bb bb bb bb bb bb bb bb bb bb bb bb bb bb bb bb bb"
)

// epoch is the value of a short time of some seconds, below ten, since the beginning of 1970.
func epoch(seconds string) string {
	return strings.TrimSuffix(hexEpoch, "30 5a") + "3" + seconds + " 5a"
}

// P11.1: things and their bytes, written down.
func TestThingsInBytes(t *testing.T) {
	long := "18 0f 32 30 35 30 30 31 30 31 30 30 30 30 30 30 5a"
	first, second, ninth, fourth, fifth, third := "30 0b 06 09 60 86 48 01 65 03 04 03 11", "30 0b 06 09 60 86 48 01 65 03 04 03 12", "30 06 06 04 88 37 01 09", "30 06 06 04 88 37 01 04", "30 06 06 04 88 37 01 05", "30 0b 06 09 60 86 48 01 65 03 04 03 13"
	for i, x := range []struct {
		thing       thing
		tbs, behind string
	}{
		{fullCert(),
			"30 81 c0 a0 03 02 01 02 02 02 01 2c" + first + hexCA + "30 20" + hexEpoch + long + hexX +
				"30 0d" + ninth + "03 03 00 01 02" +
				"a3 5a 30 58" +
				"30 12 06 03 55 1d 13 01 01 ff 04 08 30 06 01 01 ff 02 01 03" +
				"30 0f 06 03 55 1d 0f 01 01 ff 04 05 03 03 07 86 80" +
				"30 0e 06 03 55 1d 11 04 07 30 05 82 03 61 2e 62" +
				"30 21 06 03 55 1d 1e 01 01 ff 04 17 30 15 a0 05 30 03 82 01 62 a1 0c 30 04 81 02 2e 63 30 04 a4 02 30 00",
			first + "03 02 00 09"},
		{fullRequest(),
			"30 30 02 01 00" + hexCA + "30 11" + second + "03 02 00 01" + "a0 09 82 01 61 87 04 0a 01 02 03",
			fourth + "03 02 00 03"},
		{fullList(),
			"30 70 02 01 01" + fourth + hexCA + epoch("7") + long +
				"30 2f" + "30 15 02 01 00" + epoch("2") + "0a 01 03" + "30 16 02 02 00 80" + epoch("5") + "0a 01 0a" +
				"a0 03 02 01 05",
			fourth + "03 03 00 07 08"},
		{fullAnswer(),
			"30 4d 04 20" + hexAA + "02 01 00 0a 01 01" + epoch("4") + "a0 14 30 12" + epoch("2") + "0a 01 06",
			fifth + "03 01 00"},
		{fullHead(),
			"30 36 02 03 10 00 00" + epoch("9") + "04 20" + hexBB,
			third + "03 02 00 07"},
	} {
		checkWrite(t, x.thing)
		want := unhex(x.tbs)
		if got, e := x.thing.Tbs(); e != api.OK || !bytes.Equal(got, want) {
			t.Errorf("%d: Tbs is %x, %d, not %x", i, got, e, want)
		}
		want = seq(want, unhex(x.behind))
		if got, e := x.thing.Encode(); e != api.OK || !bytes.Equal(got, want) {
			t.Errorf("%d: Encode is %x, %d, not %x", i, got, e, want)
		}
	}
}

// P11.1: the example of the chapter.
func TestExampleHead(t *testing.T) {
	h := Head{Root: make([]byte, 32), Scheme: 1}
	checkWrite(t, h)
	b, e := h.Tbs()
	if e != api.OK || !bytes.Equal(b, unhex("30 34 02 01 00"+hexEpoch+"04 20"+strings.Repeat("00", 32))) {
		t.Errorf("%x, %d", b, e)
	}
}

// P11.1: what lacks, where nothing is set.
func TestWhatLacks(t *testing.T) {
	first := "30 0b 06 09 60 86 48 01 65 03 04 03 11"
	for i, x := range []struct {
		thing thing
		tbs   string
	}{
		{Cert{Serial: 1, Scheme: 1, KeyScheme: 1, Path: -1}, "30 4b a0 03 02 01 02 02 01 01" + first + "30 00 30 1e" + hexEpoch + hexEpoch + "30 00 30 10" + first + "03 01 00"},
		{Cert{Serial: 1, Scheme: 1, KeyScheme: 1, CA: true, Path: -1}, "30 60 a0 03 02 01 02 02 01 01" + first + "30 00 30 1e" + hexEpoch + hexEpoch + "30 00 30 10" + first + "03 01 00 a3 13 30 11 30 0f 06 03 55 1d 13 01 01 ff 04 05 30 03 01 01 ff"},
		{Cert{Serial: 1, Scheme: 1, KeyScheme: 1, CA: true}, "30 63 a0 03 02 01 02 02 01 01" + first + "30 00 30 1e" + hexEpoch + hexEpoch + "30 00 30 10" + first + "03 01 00 a3 16 30 14 30 12 06 03 55 1d 13 01 01 ff 04 08 30 06 01 01 ff 02 01 00"},
		{Cert{Serial: 1, Scheme: 1, KeyScheme: 1, Path: -1, Permit: []name.General{{Kind: 2}}}, "30 63 a0 03 02 01 02 02 01 01" + first + "30 00 30 1e" + hexEpoch + hexEpoch + "30 00 30 10" + first + "03 01 00 a3 16 30 14 30 12 06 03 55 1d 1e 01 01 ff 04 08 30 06 a0 04 30 02 82 00"},
		{Request{KeyScheme: 1}, "30 17 02 01 00 30 00 30 10" + first + "03 01 00"},
		{List{Scheme: 1}, "30 35 02 01 01" + first + "30 00" + hexEpoch + hexEpoch + "a0 03 02 01 00"},
		{Answer{Key: unhex(hexAA), Serial: 1}, "30 37 04 20" + hexAA + "02 01 01 0a 01 00" + hexEpoch},
		{Answer{Key: unhex(hexAA), Serial: 1, Status: 2, At: -1, Reason: 11}, "30 37 04 20" + hexAA + "02 01 01 0a 01 02" + hexEpoch},
	} {
		checkWrite(t, x.thing)
		if got, e := x.thing.Tbs(); e != api.OK || !bytes.Equal(got, unhex(x.tbs)) {
			t.Errorf("%d: %x, %d, not %x", i, got, e, unhex(x.tbs))
		}
	}
}

// P11.1: every Usage, and some written down.
func TestUsages(t *testing.T) {
	for set := range 512 {
		c := fullCert()
		c.Usage = set
		if e, f := checkWrite(t, c); e != api.OK || f != api.OK {
			t.Fatal(set, e, f)
		}
	}
	for set, want := range map[int]string{1: "03 02 07 80", 0x80: "03 02 00 01", 0x81: "03 02 00 81", 0x100: "03 03 07 00 80", 0x1ff: "03 03 07 ff 80", 6: "03 02 05 60"} {
		c := fullCert()
		c.Usage = set
		if b, _ := c.Tbs(); !bytes.Contains(b, tlv(4, unhex(want))) {
			t.Errorf("%x: %x", set, b)
		}
	}
}

// P11.1: numbers at the edges of their bytes.
func TestNumbers(t *testing.T) {
	for n, want := range map[int]string{
		0: "02 01 00", 1: "02 01 01", 127: "02 01 7f", 128: "02 02 00 80", 255: "02 02 00 ff", 256: "02 02 01 00", 32767: "02 02 7f ff", 32768: "02 03 00 80 00", 65536: "02 03 01 00 00", 1 << 31: "02 05 00 80 00 00 00",
		1<<55 - 1: "02 07 7f ff ff ff ff ff ff", 1 << 55: "02 08 00 80 00 00 00 00 00 00", 1 << 56: "02 08 01 00 00 00 00 00 00 00", 1<<62 - 1: "02 08 3f ff ff ff ff ff ff ff",
	} {
		h := Head{Size: n, Root: make([]byte, 32), Scheme: 1}
		checkWrite(t, h)
		if b, e := h.Tbs(); e != api.OK || !bytes.HasPrefix(b[2:], unhex(want)) {
			t.Errorf("%d: %x, %d", n, b, e)
		}
	}
}

// P11.1: the oids of the schemes.
func TestSchemes(t *testing.T) {
	for scheme := -1; scheme <= 11; scheme++ {
		h := fullHead()
		h.Scheme = scheme
		r := fullRequest()
		r.KeyScheme = scheme
		_, e := checkWrite(t, h)
		f, g := checkWrite(t, r)
		want := api.ErrSet
		if scheme >= 1 && scheme <= 9 {
			want = api.OK
		}
		if e != want || f != want || g != want {
			t.Errorf("%d: %d, %d, %d", scheme, e, f, g)
		}
		if _, e := h.Tbs(); e != api.OK {
			t.Errorf("%d: Tbs asks for the scheme of the signature: %d", scheme, e)
		}
	}
}

// edge is a change of a thing, and what Tbs and Encode answer then.
type edge[X thing] struct {
	change      func(x *X)
	tbs, encode api.Errno
}

func checkEdges[X thing](t *testing.T, full func() X, edges []edge[X]) {
	t.Helper()
	for i, edge := range edges {
		x := full()
		edge.change(&x)
		e, f := checkWrite(t, x)
		if e != edge.tbs || f != edge.encode {
			t.Errorf("%d: %d, %d, not %d, %d", i, e, f, edge.tbs, edge.encode)
		}
	}
}

var (
	noName  = name.DN{{Type: "1.2", Text: ""}}
	noOid   = name.DN{{Type: "x", Text: "a"}}
	machine = name.General{Kind: 2, Text: "a"}
)

// P11.1: the edges of a certificate's parts, and wrong ones.
func TestCertEdges(t *testing.T) {
	checkEdges(t, fullCert, []edge[Cert]{
		{func(c *Cert) { c.Serial = 1 }, api.OK, api.OK}, {func(c *Cert) { c.Serial = 0 }, api.ErrForm, api.ErrForm}, {func(c *Cert) { c.Serial = -1 }, api.ErrForm, api.ErrForm}, {func(c *Cert) { c.Serial = 1<<62 - 1 }, api.OK, api.OK}, {func(c *Cert) { c.Serial = 1 << 62 }, api.ErrForm, api.ErrForm}, {func(c *Cert) { c.Serial = math.MinInt }, api.ErrForm, api.ErrForm},
		{func(c *Cert) { c.Scheme = 0 }, api.ErrSet, api.ErrSet}, {func(c *Cert) { c.Scheme = 10 }, api.ErrSet, api.ErrSet}, {func(c *Cert) { c.Scheme = 9 }, api.OK, api.OK}, {func(c *Cert) { c.KeyScheme = 0 }, api.ErrSet, api.ErrSet}, {func(c *Cert) { c.KeyScheme = 10 }, api.ErrSet, api.ErrSet}, {func(c *Cert) { c.KeyScheme = math.MaxInt }, api.ErrSet, api.ErrSet},
		{func(c *Cert) { c.Issuer = nil }, api.OK, api.OK}, {func(c *Cert) { c.Issuer = noName }, api.ErrName, api.ErrName}, {func(c *Cert) { c.Issuer = noOid }, api.ErrForm, api.ErrForm}, {func(c *Cert) { c.Issuer = times(17, ca[0]) }, api.ErrForm, api.ErrForm}, {func(c *Cert) { c.Issuer = times(16, ca[0]) }, api.OK, api.OK}, {func(c *Cert) { c.Subject = noName }, api.ErrName, api.ErrName}, {func(c *Cert) { c.Subject = noOid }, api.ErrForm, api.ErrForm},
		{func(c *Cert) { c.From = -1 }, api.ErrTime, api.ErrTime}, {func(c *Cert) { c.From = api.MaxTime + 1 }, api.ErrTime, api.ErrTime}, {func(c *Cert) { c.To = api.MaxTime }, api.OK, api.OK}, {func(c *Cert) { c.To = api.MaxTime + 1 }, api.ErrTime, api.ErrTime}, {func(c *Cert) { c.From, c.To = 5, 4 }, api.OK, api.OK},
		{func(c *Cert) { c.Key = nil }, api.OK, api.OK}, {func(c *Cert) { c.Sig = nil }, api.OK, api.OK},
		{func(c *Cert) { c.CA = false }, api.ErrForm, api.ErrForm}, {func(c *Cert) { c.CA, c.Path = false, 0 }, api.ErrForm, api.ErrForm}, {func(c *Cert) { c.CA, c.Path = false, -1 }, api.OK, api.OK}, {func(c *Cert) { c.CA, c.Path = false, -2 }, api.ErrForm, api.ErrForm},
		{func(c *Cert) { c.Path = -1 }, api.OK, api.OK}, {func(c *Cert) { c.Path = 0 }, api.OK, api.OK}, {func(c *Cert) { c.Path = -2 }, api.ErrForm, api.ErrForm}, {func(c *Cert) { c.Path = 1<<62 - 1 }, api.OK, api.OK}, {func(c *Cert) { c.Path = 1 << 62 }, api.ErrForm, api.ErrForm},
		{func(c *Cert) { c.Usage = -1 }, api.ErrForm, api.ErrForm}, {func(c *Cert) { c.Usage = 511 }, api.OK, api.OK}, {func(c *Cert) { c.Usage = 512 }, api.ErrForm, api.ErrForm}, {func(c *Cert) { c.Usage = 1<<32 + 1 }, api.ErrForm, api.ErrForm},
		{func(c *Cert) { c.Alt = times(256, machine) }, api.OK, api.OK}, {func(c *Cert) { c.Alt = times(257, machine) }, api.ErrForm, api.ErrForm}, {func(c *Cert) { c.Alt = times(257, name.General{Kind: 2}) }, api.ErrForm, api.ErrForm}, {func(c *Cert) { c.Alt = []name.General{{Kind: 2}} }, api.ErrName, api.ErrName}, {func(c *Cert) { c.Alt = []name.General{{Kind: 4}} }, api.ErrName, api.ErrName}, {func(c *Cert) { c.Alt = []name.General{machine, {Kind: 3}} }, api.ErrForm, api.ErrForm}, {func(c *Cert) { c.Alt = []name.General{{Kind: 7, Text: "abcd\xff\x00\x00\x00"}} }, api.ErrName, api.ErrName},
		{func(c *Cert) { c.Permit = times(256, machine) }, api.OK, api.OK}, {func(c *Cert) { c.Permit = times(257, machine) }, api.ErrForm, api.ErrForm}, {func(c *Cert) { c.Permit = []name.General{{Kind: 2}} }, api.OK, api.OK}, {func(c *Cert) { c.Permit = []name.General{{Kind: 7, Text: "abcd"}} }, api.ErrName, api.ErrName}, {func(c *Cert) { c.Permit = []name.General{{Kind: 7, Text: "abcd\xff\x00\x00\x00"}} }, api.OK, api.OK}, {func(c *Cert) { c.Permit = []name.General{{Kind: 3}} }, api.ErrForm, api.ErrForm},
		{func(c *Cert) { c.Exclude = times(256, machine) }, api.OK, api.OK}, {func(c *Cert) { c.Exclude = times(257, machine) }, api.ErrForm, api.ErrForm}, {func(c *Cert) { c.Exclude = []name.General{{Kind: 7, Text: "abcd"}} }, api.ErrName, api.ErrName}, {func(c *Cert) { c.Exclude = []name.General{{Kind: 5}} }, api.ErrForm, api.ErrForm},
		{func(c *Cert) { c.Permit, c.Exclude = times(256, machine), times(256, machine) }, api.OK, api.OK}, {func(c *Cert) { c.Alt, c.Permit, c.Exclude = nil, nil, nil }, api.OK, api.OK}, {func(c *Cert) { c.Permit = nil }, api.OK, api.OK}, {func(c *Cert) { c.Exclude = nil }, api.OK, api.OK},
	})
}

// P11.1: the edges of the parts of a request and a list, and wrong ones.
func TestRequestAndListEdges(t *testing.T) {
	checkEdges(t, fullRequest, []edge[Request]{
		{func(r *Request) { r.Subject = noName }, api.ErrName, api.ErrName}, {func(r *Request) { r.Subject = noOid }, api.ErrForm, api.ErrForm}, {func(r *Request) { r.Subject = nil }, api.OK, api.OK}, {func(r *Request) { r.KeyScheme = 0 }, api.ErrSet, api.ErrSet}, {func(r *Request) { r.KeyScheme = 10 }, api.ErrSet, api.ErrSet},
		{func(r *Request) { r.Alt = nil }, api.OK, api.OK}, {func(r *Request) { r.Alt = times(256, machine) }, api.OK, api.OK}, {func(r *Request) { r.Alt = times(257, machine) }, api.ErrForm, api.ErrForm}, {func(r *Request) { r.Alt = []name.General{{Kind: 2}} }, api.ErrName, api.ErrName}, {func(r *Request) { r.Alt = []name.General{{Kind: 4}} }, api.ErrName, api.ErrName}, {func(r *Request) { r.Alt = []name.General{{}} }, api.ErrForm, api.ErrForm},
		{func(r *Request) { r.Scheme = 0 }, api.OK, api.ErrSet}, {func(r *Request) { r.Scheme = 10 }, api.OK, api.ErrSet}, {func(r *Request) { r.Sig = nil }, api.OK, api.OK},
	})
	checkEdges(t, fullList, []edge[List]{
		{func(l *List) { l.Scheme = 0 }, api.ErrSet, api.ErrSet}, {func(l *List) { l.Scheme = 10 }, api.ErrSet, api.ErrSet}, {func(l *List) { l.Issuer = noName }, api.ErrName, api.ErrName}, {func(l *List) { l.Issuer = noOid }, api.ErrForm, api.ErrForm},
		{func(l *List) { l.This = -1 }, api.ErrTime, api.ErrTime}, {func(l *List) { l.Next = api.MaxTime + 1 }, api.ErrTime, api.ErrTime}, {func(l *List) { l.This, l.Next = 9, 8 }, api.OK, api.OK},
		{func(l *List) { l.Entries = nil }, api.OK, api.OK}, {func(l *List) { l.Entries = make([]Entry, 256) }, api.OK, api.OK}, {func(l *List) { l.Entries = make([]Entry, 257) }, api.ErrForm, api.ErrForm}, {func(l *List) { l.Entries = times(257, Entry{At: -1}) }, api.ErrForm, api.ErrForm},
		{func(l *List) { l.Entries[0].Serial = -1 }, api.ErrForm, api.ErrForm}, {func(l *List) { l.Entries[1].Serial = 1 << 62 }, api.ErrForm, api.ErrForm}, {func(l *List) { l.Entries[1].Serial = 0 }, api.OK, api.OK}, {func(l *List) { l.Entries[1] = l.Entries[0] }, api.OK, api.OK},
		{func(l *List) { l.Entries[1].At = -1 }, api.ErrTime, api.ErrTime}, {func(l *List) { l.Entries[1].At = api.MaxTime + 1 }, api.ErrTime, api.ErrTime}, {func(l *List) { l.Entries[1].Reason = -1 }, api.ErrForm, api.ErrForm}, {func(l *List) { l.Entries[1].Reason = 11 }, api.ErrForm, api.ErrForm}, {func(l *List) { l.Entries[1].Reason = 0 }, api.OK, api.OK}, {func(l *List) { l.Entries[1].Reason = 7 }, api.OK, api.OK},
		{func(l *List) { l.Number = -1 }, api.ErrForm, api.ErrForm}, {func(l *List) { l.Number = 0 }, api.OK, api.OK}, {func(l *List) { l.Number = 1<<62 - 1 }, api.OK, api.OK}, {func(l *List) { l.Number = 1 << 62 }, api.ErrForm, api.ErrForm},
	})
}

// P11.1: the edges of the parts of an answer and a head, and wrong ones.
func TestAnswerAndHeadEdges(t *testing.T) {
	checkEdges(t, fullAnswer, []edge[Answer]{
		{func(a *Answer) { a.Key = a.Key[:31] }, api.ErrForm, api.ErrForm}, {func(a *Answer) { a.Key = make([]byte, 33) }, api.ErrForm, api.ErrForm}, {func(a *Answer) { a.Key = nil }, api.ErrForm, api.ErrForm}, {func(a *Answer) { a.Key = make([]byte, 70000) }, api.ErrForm, api.ErrForm},
		{func(a *Answer) { a.Serial = -1 }, api.ErrForm, api.ErrForm}, {func(a *Answer) { a.Serial = 1 << 62 }, api.ErrForm, api.ErrForm}, {func(a *Answer) { a.Serial = 1<<62 - 1 }, api.OK, api.OK},
		{func(a *Answer) { a.Status = -1 }, api.ErrForm, api.ErrForm}, {func(a *Answer) { a.Status = 3 }, api.ErrForm, api.ErrForm}, {func(a *Answer) { a.Status = 1<<32 + 1 }, api.ErrForm, api.ErrForm}, {func(a *Answer) { a.Status = 0 }, api.OK, api.OK}, {func(a *Answer) { a.Status = 2 }, api.OK, api.OK},
		{func(a *Answer) { a.This = -1 }, api.ErrTime, api.ErrTime}, {func(a *Answer) { a.This = api.MaxTime + 1 }, api.ErrTime, api.ErrTime}, {func(a *Answer) { a.At = -1 }, api.ErrTime, api.ErrTime}, {func(a *Answer) { a.At = api.MaxTime + 1 }, api.ErrTime, api.ErrTime},
		{func(a *Answer) { a.Reason = -1 }, api.ErrForm, api.ErrForm}, {func(a *Answer) { a.Reason = 11 }, api.ErrForm, api.ErrForm}, {func(a *Answer) { a.Reason = 10 }, api.OK, api.OK}, {func(a *Answer) { a.Reason = 0 }, api.OK, api.OK},
		{func(a *Answer) { a.Status, a.At, a.Reason = 0, -1, 11 }, api.OK, api.OK}, {func(a *Answer) { a.Status, a.At, a.Reason = 2, api.MaxTime+1, -1 }, api.OK, api.OK}, {func(a *Answer) { a.Status, a.At = 3, -1 }, api.ErrForm, api.ErrForm},
		{func(a *Answer) { a.Scheme = 0 }, api.OK, api.ErrSet}, {func(a *Answer) { a.Scheme = 10 }, api.OK, api.ErrSet},
	})
	checkEdges(t, fullHead, []edge[Head]{
		{func(h *Head) { h.Size = -1 }, api.ErrForm, api.ErrForm}, {func(h *Head) { h.Size = 1 << 62 }, api.ErrForm, api.ErrForm}, {func(h *Head) { h.Time = -1 }, api.ErrTime, api.ErrTime}, {func(h *Head) { h.Time = api.MaxTime + 1 }, api.ErrTime, api.ErrTime}, {func(h *Head) { h.Time = api.MaxTime }, api.OK, api.OK},
		{func(h *Head) { h.Root = nil }, api.ErrForm, api.ErrForm}, {func(h *Head) { h.Root = h.Root[:31] }, api.ErrForm, api.ErrForm}, {func(h *Head) { h.Root = make([]byte, 33) }, api.ErrForm, api.ErrForm}, {func(h *Head) { h.Scheme = 0 }, api.OK, api.ErrSet}, {func(h *Head) { h.Scheme = -1 }, api.OK, api.ErrSet}, {func(h *Head) { h.Sig = nil }, api.OK, api.OK},
	})
}

// P11.1: of two errors the one whose part stands first; those of the thing ahead of the signature's.
func TestOrderOfErrors(t *testing.T) {
	checkEdges(t, fullCert, []edge[Cert]{
		{func(c *Cert) { c.Serial, c.Scheme = 0, 0 }, api.ErrForm, api.ErrForm}, {func(c *Cert) { c.Scheme, c.Issuer = 0, noOid }, api.ErrSet, api.ErrSet}, {func(c *Cert) { c.Issuer, c.From = noName, -1 }, api.ErrName, api.ErrName}, {func(c *Cert) { c.From, c.Subject = -1, noOid }, api.ErrTime, api.ErrTime}, {func(c *Cert) { c.To, c.Subject = -1, noName }, api.ErrTime, api.ErrTime}, {func(c *Cert) { c.Subject, c.KeyScheme = noName, 0 }, api.ErrName, api.ErrName}, {func(c *Cert) { c.KeyScheme, c.Path = 0, -2 }, api.ErrSet, api.ErrSet}, {func(c *Cert) { c.KeyScheme, c.Usage = 0, -1 }, api.ErrSet, api.ErrSet},
		{func(c *Cert) { c.Path, c.Alt = -2, []name.General{{Kind: 2}} }, api.ErrForm, api.ErrForm}, {func(c *Cert) { c.CA, c.Alt = false, []name.General{{Kind: 2}} }, api.ErrForm, api.ErrForm}, {func(c *Cert) { c.Usage, c.Alt = 512, []name.General{{Kind: 2}} }, api.ErrForm, api.ErrForm}, {func(c *Cert) { c.Alt = []name.General{{Kind: 2}, {Kind: 3}} }, api.ErrName, api.ErrName}, {func(c *Cert) { c.Alt = []name.General{{Kind: 3}, {Kind: 2}} }, api.ErrForm, api.ErrForm},
		{func(c *Cert) { c.Alt, c.Permit = []name.General{{Kind: 2}}, []name.General{{Kind: 3}} }, api.ErrName, api.ErrName}, {func(c *Cert) { c.Permit, c.Exclude = []name.General{{Kind: 7}}, []name.General{{Kind: 3}} }, api.ErrName, api.ErrName}, {func(c *Cert) { c.Permit, c.Exclude = []name.General{{Kind: 3}}, []name.General{{Kind: 7}} }, api.ErrForm, api.ErrForm}, {func(c *Cert) { c.Permit, c.Exclude = []name.General{{Kind: 7}}, times(257, machine) }, api.ErrName, api.ErrName},
	})
	checkEdges(t, fullRequest, []edge[Request]{
		{func(r *Request) { r.Subject, r.KeyScheme = noName, 0 }, api.ErrName, api.ErrName}, {func(r *Request) { r.KeyScheme, r.Alt = 0, []name.General{{}} }, api.ErrSet, api.ErrSet}, {func(r *Request) { r.Alt, r.Scheme = []name.General{{Kind: 2}}, 0 }, api.ErrName, api.ErrName},
	})
	checkEdges(t, fullList, []edge[List]{
		{func(l *List) { l.Scheme, l.Issuer = 0, noName }, api.ErrSet, api.ErrSet}, {func(l *List) { l.Issuer, l.This = noName, -1 }, api.ErrName, api.ErrName}, {func(l *List) { l.Next, l.Entries[0].Serial = -1, -1 }, api.ErrTime, api.ErrTime}, {func(l *List) { l.Entries[0].At, l.Entries[0].Reason = -1, -1 }, api.ErrTime, api.ErrTime}, {func(l *List) { l.Entries[0].Serial, l.Entries[0].At = -1, -1 }, api.ErrForm, api.ErrForm}, {func(l *List) { l.Entries[0].At, l.Entries[1].Serial = -1, -1 }, api.ErrTime, api.ErrTime}, {func(l *List) { l.Entries[1].At, l.Number = -1, -1 }, api.ErrTime, api.ErrTime},
	})
	checkEdges(t, fullAnswer, []edge[Answer]{
		{func(a *Answer) { a.Key, a.This = nil, -1 }, api.ErrForm, api.ErrForm}, {func(a *Answer) { a.Serial, a.This = -1, -1 }, api.ErrForm, api.ErrForm}, {func(a *Answer) { a.Status, a.This = 3, -1 }, api.ErrForm, api.ErrForm}, {func(a *Answer) { a.This, a.Reason = -1, 11 }, api.ErrTime, api.ErrTime}, {func(a *Answer) { a.At, a.Reason = -1, 11 }, api.ErrTime, api.ErrTime}, {func(a *Answer) { a.Reason, a.Scheme = 11, 0 }, api.ErrForm, api.ErrForm},
	})
	checkEdges(t, fullHead, []edge[Head]{
		{func(h *Head) { h.Size, h.Time = -1, -1 }, api.ErrForm, api.ErrForm}, {func(h *Head) { h.Time, h.Root = -1, nil }, api.ErrTime, api.ErrTime}, {func(h *Head) { h.Root, h.Scheme = nil, 0 }, api.ErrForm, api.ErrForm},
	})
}

// P11.1: ErrBig stands behind all other errors, also where the bytes of an extension alone are too many.
func TestBig(t *testing.T) {
	big, names := make([]byte, 70000), times(256, bigName())
	checkEdges(t, fullCert, []edge[Cert]{
		{func(c *Cert) { c.Key = big }, api.ErrBig, api.ErrBig}, {func(c *Cert) { c.Sig = big }, api.OK, api.ErrBig}, {func(c *Cert) { c.Alt = names }, api.ErrBig, api.ErrBig}, {func(c *Cert) { c.Permit = names }, api.ErrBig, api.ErrBig}, {func(c *Cert) { c.Exclude = names }, api.ErrBig, api.ErrBig},
		{func(c *Cert) { c.Key, c.Exclude = big, []name.General{{Kind: 7}} }, api.ErrName, api.ErrName}, {func(c *Cert) { c.Alt, c.Permit = names, []name.General{{Kind: 3}} }, api.ErrForm, api.ErrForm}, {func(c *Cert) { c.Alt, c.Exclude = names, []name.General{{Kind: 7}} }, api.ErrName, api.ErrName}, {func(c *Cert) { c.Alt, c.Permit, c.Exclude = names, names, []name.General{{Kind: 7}} }, api.ErrName, api.ErrName}, {func(c *Cert) { c.Usage, c.Alt = -1, names }, api.ErrForm, api.ErrForm}, {func(c *Cert) { c.Sig, c.To = big, -1 }, api.ErrTime, api.ErrTime}, {func(c *Cert) { c.Alt, c.Exclude = names, names }, api.ErrBig, api.ErrBig},
	})
	checkEdges(t, fullRequest, []edge[Request]{
		{func(r *Request) { r.Key = big }, api.ErrBig, api.ErrBig}, {func(r *Request) { r.Key, r.Scheme = big, 0 }, api.ErrBig, api.ErrSet}, {func(r *Request) { r.Alt, r.Scheme = names, 0 }, api.ErrBig, api.ErrSet}, {func(r *Request) { r.Sig, r.Scheme = big, 0 }, api.OK, api.ErrSet}, {func(r *Request) { r.Sig = big }, api.OK, api.ErrBig},
	})
	checkEdges(t, fullList, []edge[List]{{func(l *List) { l.Sig = big }, api.OK, api.ErrBig}, {func(l *List) { l.Sig, l.Number = big, -1 }, api.ErrForm, api.ErrForm}})
	checkEdges(t, fullAnswer, []edge[Answer]{{func(a *Answer) { a.Sig = big }, api.OK, api.ErrBig}, {func(a *Answer) { a.Sig, a.Scheme = big, 0 }, api.OK, api.ErrSet}})
	checkEdges(t, fullHead, []edge[Head]{{func(h *Head) { h.Sig = big }, api.OK, api.ErrBig}, {func(h *Head) { h.Sig, h.Scheme = big, 0 }, api.OK, api.ErrSet}})
}

// P11.1: ErrBig just past MaxBytes, of a thing and of a signed one.
func TestJustBig(t *testing.T) {
	c := fullCert()
	c.Sig = nil
	c.Key = make([]byte, 65000)
	b, _ := c.Tbs()
	c.Key = make([]byte, 65000+65536-len(b))
	if e, f := checkWrite(t, c); e != api.OK || f != api.ErrBig {
		t.Error(e, f)
	}
	c.Key = append(c.Key, 0)
	if e, f := checkWrite(t, c); e != api.ErrBig || f != api.ErrBig {
		t.Error(e, f)
	}
	for _, k := range kinds {
		for n, want := range []api.Errno{api.OK, api.ErrBig} {
			b, _ := signedBy(k, 65000).Encode()
			x := signedBy(k, 65000+65536-len(b)+n)
			if e, f := checkWrite(t, x); e != api.OK || f != want {
				t.Errorf("%s: %d, %d, not %d", k.name, e, f, want)
			}
		}
	}
}

// signedBy is a thing of a kind, with a signature of n bytes.
func signedBy(k kind, n int) thing {
	sig := make([]byte, n)
	switch k.none.(type) {
	case Cert:
		c := fullCert()
		c.Sig = sig
		return c
	case Request:
		r := fullRequest()
		r.Sig = sig
		return r
	case List:
		l := fullList()
		l.Sig = sig
		return l
	case Answer:
		a := fullAnswer()
		a.Sig = sig
		return a
	}
	h := fullHead()
	h.Sig = sig
	return h
}
