package office

import (
	"math"
	"slices"
	"strconv"
	"strings"
	"testing"

	"chancery/api"
	"chancery/cert"
	"chancery/name"
	"chancery/path"
	"chancery/scheme"
	"chancery/store"
)

// P19.3: by keys of each scheme, from offices of each scheme.
func TestIssue(t *testing.T) {
	for kind := 1; kind < 10; kind++ {
		h := newHouse(t, kind, 4)
		for i := range 3 {
			asked := 1 + (kind+3*i)%9
			subject := common("p" + strconv.Itoa(i))
			b := h.issue(t, ask(t, asked, subject, machine("a.b.example"), mail("x@b.example")), 1000+i, drawOf(i))
			c, e := cert.ParseCert(b)
			expect(t, "ParseCert", e, api.OK)
			if c.Serial != 2+i || c.From != 1000+i || c.To != 2000+i || c.CA || c.Path != -1 || c.Usage != 1 || len(c.Alt) != 2 || len(c.Permit) != 0 || len(c.Exclude) != 0 || c.Scheme != kind || c.KeyScheme != asked {
				t.Fatalf("issued is %+v", c)
			}
			if e := path.Validate([]cert.Cert{c}, []cert.Cert{h.o.Root()}, 1500); e != api.OK {
				t.Fatal("its chain:", e)
			}
		}
		h.reopen(t)
		h.holds(t)
		h.issue(t, ask(t, 1, nil, machine("c.example")), 1003, drawOf(9))
	}
}

// P19.3: times at the root's From and To, and past them.
func TestIssueTimes(t *testing.T) {
	h := newHouse(t, 1, 4)
	r := ask(t, 1, common("x"))
	for _, now := range []int{999, 11001, 0, -1, math.MinInt, math.MaxInt, api.MaxTime, api.MaxTime + 1, 1<<32 + 1000} {
		h.refuse(t, strconv.Itoa(now), r, now, drawOf(0), api.ErrTime)
	}
	for _, x := range [][2]int{{1000, 2000}, {1001, 2001}, {9999, 10999}, {10000, 11000}, {10001, 11000}, {11000, 11000}, {1000, 2000}} {
		c, _ := cert.ParseCert(h.issue(t, r, x[0], drawOf(0)))
		if c.From != x[0] || c.To != x[1] {
			t.Errorf("at %d: from %d to %d", x[0], c.From, c.To)
		}
	}
}

// P19.3: draws that haven't 32 bytes.
func TestIssueDraws(t *testing.T) {
	for _, kind := range []int{1, 4, 9} {
		h := newHouse(t, kind, 4)
		for _, n := range []int{0, 1, 16, 24, 31, 33, 64, 256 + 32} {
			h.refuse(t, strconv.Itoa(n), ask(t, 1, common("x")), 1000, drawn(1, n), api.ErrKey)
		}
	}
}

// P19.3: what is no request.
func TestIssueNoRequest(t *testing.T) {
	h := newHouse(t, 1, 4)
	good := ask(t, 1, common("x"), machine("b.example"))
	c := h.issue(t, good, 1000, drawOf(0))
	h.refuse(t, "nothing", nil, 1000, drawOf(0), api.ErrEnd)
	h.refuse(t, "one byte more", append(slices.Clone(good), 0), 1000, drawOf(0), api.ErrMore)
	h.refuse(t, "one byte less", good[:len(good)-1], 1000, drawOf(0), api.ErrEnd)
	h.refuse(t, "a certificate", c, 1000, drawOf(0), api.ErrForm)
	h.refuse(t, "a value", []byte{5, 0}, 1000, drawOf(0), api.ErrForm)
	for at := range good[:60] {
		bad := slices.Clone(good)
		bad[at] ^= 0x10
		_, want := h.next(t, bad, 1000, drawOf(0))
		if want == api.OK {
			t.Fatalf("of the byte %d all is as it was", at)
		}
		h.refuse(t, "another byte at "+strconv.Itoa(at), bad, 1000, drawOf(0), want)
	}
}

// P19.3: requests that their own keys didn't sign.
func TestIssueNoProof(t *testing.T) {
	for kind := 1; kind < 10; kind++ {
		h := newHouse(t, 1, 4)
		good := ask(t, kind, common("x"))
		bad := slices.Clone(good)
		bad[len(bad)-1] ^= 1
		h.refuse(t, "another signature", bad, 1000, drawOf(0), api.ErrProof)
		r, _ := cert.ParseRequest(good)
		for what, edit := range map[string]func(r *cert.Request){
			"another subject":    func(r *cert.Request) { r.Subject = common("y") },
			"no subject":         func(r *cert.Request) { r.Subject = nil },
			"one name more":      func(r *cert.Request) { r.Alt = []name.General{machine("b.example")} },
			"no signature":       func(r *cert.Request) { r.Sig = nil },
			"a longer signature": func(r *cert.Request) { r.Sig = append(slices.Clone(r.Sig), 0) },
			"another key":        func(r *cert.Request) { r.Key = signerOf(t, kind, seedOf(77)).Public() },
			"no key":             func(r *cert.Request) { r.Key = nil },
		} {
			x := r
			edit(&x)
			h.refuse(t, what, encoded(t, x), 1000, drawOf(0), api.ErrProof)
		}
		other := signRequest(t, cert.Request{Subject: common("x"), KeyScheme: kind, Key: signerOf(t, kind, seedOf(77)).Public(), Scheme: kind}, kind, seedOf(kind))
		h.refuse(t, "signed by another key", encoded(t, other), 1000, drawOf(0), api.ErrProof)
		h.issue(t, good, 1000, drawOf(0))
	}
}

// P19.3: requests whose Scheme isn't the key's, right as the signature may be: keys of 8 and 9 are verified under both.
func TestIssueOtherScheme(t *testing.T) {
	h := newHouse(t, 1, 4)
	for kind := 1; kind < 10; kind++ {
		for other := 1; other < 10; other++ {
			r := signRequest(t, cert.Request{Subject: common("x"), KeyScheme: kind, Key: signerOf(t, kind, seedOf(kind)).Public(), Scheme: other}, kind, seedOf(kind))
			if other != kind {
				h.refuse(t, strconv.Itoa(kind)+" as "+strconv.Itoa(other), encoded(t, r), 1000, drawOf(0), api.ErrProof)
			}
			tbs, _ := r.Tbs()
			if kind+other == 17 && !scheme.Verify(other, r.Key, tbs, r.Sig) {
				t.Error("a key of the one isn't verified under the other")
			}
			if other != kind {
				r = signRequest(t, r, other, seedOf(other))
				h.refuse(t, "signed by the other's key", encoded(t, r), 1000, drawOf(0), api.ErrProof)
			}
		}
	}
}

// P19.3: nameless requests, and those of which a name doesn't keep to the root's limits.
func TestIssueNames(t *testing.T) {
	h := newHouse(t, 1, 4)
	evil, good := common("evil"), common("x")
	h.refuse(t, "no names", ask(t, 1, nil), 1000, drawOf(0), api.ErrProfile)
	for i, alt := range [][]name.General{
		{machine("a.evil")}, {machine("evil.b.example")}, {machine("x.evil.b.example")}, {machine("example")}, {machine("xb.example")},
		{machine("b.example"), machine("d.example")}, {machine("d.example"), machine("b.example")},
		{mail("x@a.b.example")}, {mail("x@c.example")}, {mail("nobody")}, {machine("-")},
		{dir(evil)}, {dir(append(common("evil"), good...))}, {machine("b.example"), dir(evil), mail("x@b.example")},
	} {
		h.refuse(t, strconv.Itoa(i), ask(t, 1, nil, alt...), 1000, drawOf(0), api.ErrNames)
		h.refuse(t, strconv.Itoa(i)+", with a subject", ask(t, 1, good, alt...), 1000, drawOf(0), api.ErrNames)
	}
	h.refuse(t, "the subject", ask(t, 1, evil), 1000, drawOf(0), api.ErrNames)
	h.refuse(t, "the subject, the names keep", ask(t, 1, append(evil, good...), machine("b.example")), 1000, drawOf(0), api.ErrNames)
	for _, alt := range [][]name.General{
		nil, {machine("b.example")}, {machine("a.B.example"), machine("c.example")}, {mail("x@b.example")}, {machine("evil.c.example")},
		{dir(common("evi"))}, {dir(append(common("x"), evil...))}, {{Kind: 6, Text: "http://evil/"}}, {{Kind: 7, Text: "\x0a\x00\x00\x01"}},
		slices.Repeat([]name.General{machine("b.example")}, 200),
	} {
		h.issue(t, ask(t, 1, good, alt...), 1000, drawOf(0))
		if len(alt) > 0 {
			h.issue(t, ask(t, 1, nil, alt...), 1000, drawOf(0))
		}
	}
}

// P19.3: the chapter's example.
func TestExample(t *testing.T) {
	h := bare(t, 3000)
	h.found(t, Config{Name: common("ca"), Scheme: 4, LogScheme: 4, Life: 100, Permit: []name.General{machine("b.example")}}, 1000)
	h.issue(t, ask(t, 4, nil, machine("a.b.example")), 1000, drawOf(0))
	h.refuse(t, "of a.evil", ask(t, 4, nil, machine("a.evil")), 1000, drawOf(0), api.ErrNames)
	h.refuse(t, "behind ten lives", ask(t, 4, nil, machine("a.b.example")), 2001, drawOf(0), api.ErrTime)
	h.issue(t, ask(t, 4, nil, machine("a.b.example")), 2000, drawOf(0))
}

// bigRequest is a request whose certificate has so many bytes.
func (h *house) bigRequest(t *testing.T, size int) []byte {
	t.Helper()
	alt := []name.General{machine("b.example")}
	for range 250 {
		b := ask(t, 1, nil, alt...)
		r, _ := cert.ParseRequest(b)
		c := cert.Cert{Serial: len(h.certs) + 1, Scheme: h.c.Scheme, Issuer: h.c.Name, From: 1000, To: 1000 + h.c.Life, KeyScheme: 1, Key: r.Key, Path: -1, Usage: 1, Alt: alt, Sig: make([]byte, scheme.Size(h.c.Scheme))}
		rest := size - len(encoded(t, c))
		if rest == 0 {
			return b
		}
		// A name takes its text and two bytes more, once there are some.
		length := min(rest-2, api.MaxName)
		if more := rest - 2 - length; more > 0 && more < 20 {
			length -= 20
		}
		if length < len("b.example") {
			t.Fatalf("no such request: %d bytes left", rest)
		}
		alt = append(alt, machine(strings.Repeat("b", length-len(".b.example"))+".b.example"))
	}
	t.Fatal("no such request")
	return nil
}

// P19.3: certificates of just MaxValue bytes, and of more: then no number is used up.
func TestIssueBig(t *testing.T) {
	for _, kind := range []int{1, 4, 8, 9} {
		h := newHouse(t, kind, 4)
		h.refuse(t, "a byte more", h.bigRequest(t, api.MaxValue+1), 1000, drawOf(0), api.ErrBig)
		h.refuse(t, "more", h.bigRequest(t, api.MaxValue+300), 1000, drawOf(0), api.ErrBig)
		if b := h.issue(t, h.bigRequest(t, api.MaxValue), 1000, drawOf(0)); len(b) != api.MaxValue {
			t.Errorf("the certificate has %d bytes", len(b))
		}
	}
	h := newHouse(t, 9, 4)
	alt := slices.Repeat([]name.General{dir(slices.Repeat(common(strings.Repeat("x", 40)), 16))}, 73)
	h.refuse(t, "more than MaxBytes", ask(t, 1, common("x"), alt...), 1000, drawOf(0), api.ErrBig)
}

// P19.3: the number of "ca" is used up ahead of the certificate; none left: ErrUsed, for ever.
func TestIssueUsed(t *testing.T) {
	for kind, n := range counts {
		h := newHouse(t, kind, 4)
		for i := range n - 1 {
			h.issue(t, ask(t, 1, common("x")), 1000+i, drawOf(0))
		}
		for range 2 {
			h.refuse(t, "no number left", ask(t, 1, common("x")), 1000, drawOf(0), api.ErrUsed)
			h.refuse(t, "outside too", ask(t, 1, common("evil")), 1000, drawOf(0), api.ErrNames)
			h.refuse(t, "big too", h.bigRequest(t, api.MaxValue+1), 1000, drawOf(0), api.ErrBig)
			h.reopen(t)
		}
		h.tell(t, 5, drawOf(1))
	}
}

// lay sets certificates of few bytes past the office, until there are so many.
func (h *house) lay(t *testing.T, n int) {
	t.Helper()
	for len(h.certs) < n {
		var list []store.Change
		for range min(500, n-len(h.certs)) {
			b := []byte{byte(len(h.certs))}
			h.certs = append(h.certs, b)
			list = append(list, store.Change{Key: []byte("cert/" + digits(len(h.certs))), Value: b})
		}
		expect(t, "Commit", h.s.Commit(list), api.OK)
	}
}

func digits(serial int) string {
	text := strconv.FormatInt(int64(serial), 16)
	return strings.Repeat("0", 16-len(text)) + text
}

// P19.3: there may be MaxMessage certificates, and no more.
func TestIssueSerial(t *testing.T) {
	h := bare(t, api.MaxSectors)
	h.found(t, someConfig(9, 4), 1000)
	h.lay(t, 255)
	for _, want := range []int{256, 257} {
		c, _ := cert.ParseCert(h.issue(t, ask(t, 1, common("x")), 1000, drawOf(0)))
		if c.Serial != want {
			t.Error("the serial is", c.Serial)
		}
	}
	h.lay(t, api.MaxMessage-1)
	r := ask(t, 1, common("x"))
	want, _ := h.next(t, r, 1000, drawOf(0))
	b, e := h.o.Issue(r, 1000, drawOf(0))
	expect(t, "the last one", e, api.OK)
	if string(b) != string(want) {
		t.Error("the last one is another")
	}
	h.certs = append(h.certs, want)
	h.useCa()
	for range 2 {
		if n := h.o.Count(); n != api.MaxMessage {
			t.Fatal("Count is", n)
		}
		for what, x := range map[string]struct {
			request []byte
			want    api.Errno
		}{
			"one more":     {r, api.ErrSerial},
			"outside, too": {ask(t, 1, common("evil")), api.ErrNames},
			"no names":     {ask(t, 1, nil), api.ErrProfile},
			"big, too":     {h.bigRequest(t, api.MaxValue+50), api.ErrSerial},
		} {
			h.still(t, what, func() { h.fails(t, what, x.request, 1000, drawOf(0), x.want) })
		}
		if n, _ := h.o.Vault().Left("ca"); n != 4 {
			t.Error("numbers left:", n)
		}
		h.reopen(t)
	}
	for _, n := range []int{1, 2, 4095, 4096} {
		got, ok := h.o.Path(n-1, 4096)
		if b, is := h.o.Cert(n); !ok || !is || string(b) != string(h.certs[n-1]) || !sameHashes(got, slowPath(h.certs, n-1)) {
			t.Error("the certificate", n)
		}
	}
}

// P19.2: certificates are those without a gap.
func TestGap(t *testing.T) {
	h := newHouse(t, 1, 4)
	h.issue(t, ask(t, 1, common("x")), 1000, drawOf(0))
	h.others["cert/"+digits(4)] = "x"
	expect(t, "Commit", h.s.Commit([]store.Change{{Key: []byte("cert/" + digits(4)), Value: []byte("x")}}), api.OK)
	h.holds(t)
	h.reopen(t)
	h.holds(t)
	h.lay(t, 3)
	delete(h.others, "cert/"+digits(4))
	h.certs = append(h.certs, []byte("x"))
	h.holds(t)
	h.issue(t, ask(t, 1, common("x")), 1000, drawOf(0))
	h.reopen(t)
	h.holds(t)
}

// P19.3: changes go with the certificate, in their order, any number of them.
func TestIssueAlso(t *testing.T) {
	set := func(key, value string) store.Change { return store.Change{Key: []byte(key), Value: []byte(value)} }
	gone := func(key string) store.Change { return store.Change{Key: []byte(key), Gone: true} }
	for _, kind := range []int{1, 4, 9} {
		h := newHouse(t, kind, 4)
		r := ask(t, 1, common("x"))
		h.issue(t, r, 1000, drawOf(0), set("a", "1"))
		h.issue(t, r, 1000, drawOf(0), set("a", "2"), set("b", ""), gone("a"), set("c", "3"), set("c", "4"))
		h.issue(t, r, 1000, drawOf(0), gone("nothing"))
		var many []store.Change
		for i := range 300 {
			many = append(many, set("k"+strconv.Itoa(i), strconv.Itoa(i)))
		}
		h.issue(t, r, 1000, drawOf(0), many...)
		h.issue(t, r, 1000, drawOf(0), []store.Change{}...)
		h.reopen(t)
		h.holds(t)
	}
}

// P19.3: the store's errors of what goes with a certificate: then there is none, but a number of "ca" is used up.
func TestIssueStoreErrors(t *testing.T) {
	for _, kind := range []int{1, 4, 9} {
		h := newHouse(t, kind, 4)
		r := ask(t, 1, common("x"))
		for i, bad := range []store.Change{{}, {Key: make([]byte, api.MaxKey+1)}, {Key: []byte("a"), Value: make([]byte, api.MaxValue+1)}, {Gone: true}} {
			good := store.Change{Key: []byte("also"), Value: []byte("x")}
			for _, also := range [][]store.Change{{bad}, {good, bad}} {
				if counts[kind] > 0 && h.caNext >= counts[kind]-1 {
					break
				}
				h.fails(t, "a change without its form, "+strconv.Itoa(i), r, 1000, drawOf(0), api.ErrForm, also...)
				h.useCa()
				h.holds(t)
			}
		}
		h.issue(t, r, 1000, drawOf(0))
	}
	h := bare(t, 300)
	h.found(t, someConfig(9, 4), 1000)
	r := ask(t, 1, common("x"))
	h.fails(t, "no room", r, 1000, drawOf(0), api.ErrFull)
	h.useCa()
	h.holds(t)
	h.reopen(t)
	h.holds(t)
}

// P19.3: of a store that is closed: no signing with a key that has a state, nothing told with others.
func TestIssueClosed(t *testing.T) {
	for _, kind := range []int{4, 9} {
		h := newHouse(t, kind, 4)
		r := ask(t, 1, common("x"))
		h.p.Arm(0)
		h.fails(t, "a crash", r, 1000, drawOf(0), api.ErrCrash)
		h.p.Revive(nil)
		before := content(h.p)
		for range 2 {
			h.fails(t, "closed", r, 1000, drawOf(0), api.ErrClosed)
			h.fails(t, "closed, outside", ask(t, 1, common("evil")), 1000, drawOf(0), api.ErrNames)
			h.holds(t)
		}
		if content(h.p) != before {
			t.Error("something was written")
		}
		h.tell(t, 7, drawOf(0))
		h.reopen(t)
		h.issue(t, r, 1000, drawOf(0))
	}
}

// P19.3: with several things wrong the first one named is told.
func TestIssueOrder(t *testing.T) {
	for state := range 8 {
		full, used, closed := state&1 > 0, state&2 > 0, state&4 > 0
		t.Run(strconv.Itoa(state), func(t *testing.T) {
			t.Parallel()
			h := bare(t, api.MaxSectors)
			h.found(t, someConfig(9, 4), 1000)
			for used && h.caNext < 8 {
				h.issue(t, ask(t, 1, common("x")), 1000, drawOf(0))
			}
			if full {
				h.lay(t, api.MaxMessage)
			}
			if closed {
				h.p.Arm(0)
				expect(t, "a crash", h.s.Commit([]store.Change{{Key: []byte("a")}}), api.ErrCrash)
				h.p.Revive(nil)
			}
			h.askAll(t, full, used, closed)
		})
	}
}

// askAll asks with everything wrong that may be wrong of a request, one thing with another.
func (h *house) askAll(t *testing.T, full, used, closed bool) {
	t.Helper()
	big := slices.Repeat([]name.General{machine(strings.Repeat("b", 50) + ".b.example")}, 120)
	for set := range 1 << 6 {
		is := func(bit int) bool { return set>>bit&1 > 0 }
		var want api.Errno
		draw, now := drawOf(0), 1000
		var subject name.DN
		var alt []name.General
		nameless, outside, broken := is(0), is(1), is(2)
		switch {
		case nameless && outside:
			subject, alt, want = common("evil"), big, api.ErrNames
		case nameless:
			want = api.ErrProfile
		case outside:
			subject, want = common("evil"), api.ErrNames
		case full:
			subject, want = common("x"), api.ErrSerial
		case is(3):
			subject, alt, want = common("x"), big, api.ErrBig
		default:
			subject = common("x")
			if used {
				want = api.ErrUsed
			} else if closed {
				want = api.ErrClosed
			}
		}
		r := ask(t, 1, subject, alt...)
		if broken {
			r[len(r)-1] ^= 1
			want = api.ErrProof
		}
		if is(3) && broken {
			r, want = append(r, 0), api.ErrMore
		}
		if is(4) {
			now, want = 99999, api.ErrTime
		}
		if is(5) {
			draw, want = nil, api.ErrKey
		}
		if want == api.OK {
			continue
		}
		before := content(h.p)
		h.fails(t, strconv.FormatInt(int64(set), 2), r, now, draw, want)
		h.fails(t, strconv.FormatInt(int64(set), 2), r, now, draw, want, store.Change{})
		if content(h.p) != before {
			t.Fatalf("%b: something was written", set)
		}
	}
	if n, _ := h.o.Vault().Left("ca"); n != 8-h.caNext {
		t.Fatal("a number was used up")
	}
}
