package path

import (
	"reflect"
	"slices"
	"strings"
	"testing"

	"chancery/cert"
	"chancery/name"
)

// P12.1: each scheme's signatures, under their own key, and not under another one or as another scheme.
func TestSigned(t *testing.T) {
	for n, s := range signers() {
		c := signBy(s, about(1, 2))
		if !Signed(c, n, s.Public()) {
			t.Errorf("scheme %d: what was signed isn't", n)
		}
		for other, o := range signers() {
			if other != n && (Signed(c, other, s.Public()) || Signed(c, n, o.Public()) || Signed(c, other, o.Public())) {
				t.Errorf("what scheme %d signed is signed as scheme %d, or under its key", n, other)
			}
		}
		key := s.Public()
		key[len(key)-1] ^= 1
		if Signed(c, n, key) || Signed(c, n, nil) || Signed(c, n, key[1:]) || Signed(c, n, append(s.Public(), 0)) {
			t.Errorf("scheme %d: signed under a key that is changed", n)
		}
		for _, none := range []int{0, -1, 10, n + 256} {
			if Signed(c, none, s.Public()) {
				t.Errorf("scheme %d: signed as scheme %d", n, none)
			}
		}
	}
}

// P12.1: the certificate's Scheme must be the key's, also where layer 8 verifies either: schemes 8 and 9 take the same keys.
func TestSignedOfTheKeysScheme(t *testing.T) {
	eight := about(1, 2)
	eight.Scheme = 8
	eight = sign(2, eight)
	if !Signed(eight, 8, public(2)) || Signed(eight, 9, public(2)) {
		t.Error("of scheme 8")
	}
	nine := issued(1, 2)
	if !Signed(nine, 9, public(2)) || Signed(nine, 8, public(2)) {
		t.Error("of scheme 9")
	}
}

// P12.1: all that Tbs tells of is signed: with any field changed it isn't any more.
func TestSignedOverAllFields(t *testing.T) {
	c := about(1, 2)
	c.Path, c.Usage = 3, 32
	c.Alt, c.Permit, c.Exclude = []name.General{machine("a")}, []name.General{machine("b")}, []name.General{machine("c")}
	c = sign(2, c)
	if !Signed(c, 9, public(2)) {
		t.Fatal("not signed")
	}
	changes := map[string]func(c *cert.Cert){
		"Serial":    func(c *cert.Cert) { c.Serial++ },
		"Scheme":    func(c *cert.Cert) { c.Scheme = 8 },
		"Issuer":    func(c *cert.Cert) { c.Issuer = dn(3) },
		"Subject":   func(c *cert.Cert) { c.Subject = nil },
		"From":      func(c *cert.Cert) { c.From-- },
		"To":        func(c *cert.Cert) { c.To++ },
		"KeyScheme": func(c *cert.Cert) { c.KeyScheme = 8 },
		"Key":       func(c *cert.Cert) { c.Key = public(3) },
		"CA":        func(c *cert.Cert) { c.CA, c.Path = false, -1 },
		"Path":      func(c *cert.Cert) { c.Path = -1 },
		"Usage":     func(c *cert.Cert) { c.Usage |= 1 },
		"Alt":       func(c *cert.Cert) { c.Alt = nil },
		"Permit":    func(c *cert.Cert) { c.Permit = c.Exclude },
		"Exclude":   func(c *cert.Cert) { c.Exclude = append(c.Exclude[:1:1], machine("d")) },
		"Sig":       func(c *cert.Cert) { c.Sig = append(slices.Clone(c.Sig[:40]), c.Sig[41:]...) },
	}
	fields := reflect.TypeOf(c)
	for i := range fields.NumField() {
		changed := c
		changes[fields.Field(i).Name](&changed)
		if Signed(changed, changed.Scheme, public(2)) {
			t.Errorf("signed with another %s", fields.Field(i).Name)
		}
	}
}

// P12.1: false of a certificate whose Tbs is an error, and of signatures that are none.
func TestNotSigned(t *testing.T) {
	right := issued(1, 2)
	for what, change := range map[string]func(c *cert.Cert){
		"a serial that is none":      func(c *cert.Cert) { c.Serial = 0 },
		"a time that is none":        func(c *cert.Cert) { c.To = -1 },
		"a name that is none":        func(c *cert.Cert) { c.Subject = common("") },
		"a key's scheme that's none": func(c *cert.Cert) { c.KeyScheme = 0 },
		"a Path without CA":          func(c *cert.Cert) { c.CA, c.Path = false, 0 },
		"a Usage that is none":       func(c *cert.Cert) { c.Usage = 512 },
		"too much":                   func(c *cert.Cert) { c.Key = make([]byte, 1<<16) },
	} {
		c := right
		change(&c)
		// The signature is right of no bytes at all, which Tbs answers beside an error.
		if Signed(sign(2, c), 9, public(2)) {
			t.Error("signed with " + what)
		}
	}
	for _, sig := range [][]byte{nil, {0}, right.Sig[1:], right.Sig[:len(right.Sig)-1], append(slices.Clone(right.Sig), 0), make([]byte, len(right.Sig))} {
		c := right
		c.Sig = sig
		if Signed(c, 9, public(2)) {
			t.Errorf("signed by %d other bytes", len(sig))
		}
	}
	if Signed(cert.Cert{}, 0, nil) || Signed(cert.Cert{}, 9, public(1)) {
		t.Error("nothing is signed")
	}
}

// P12.1: the Alt in order, and behind them the Subject, if it isn't empty.
func TestNames(t *testing.T) {
	mail, other := name.General{Kind: 1, Text: "a@b"}, dir(dn(7))
	for _, x := range []struct {
		alt  []name.General
		dn   name.DN
		want []name.General
	}{
		{nil, nil, nil},
		{[]name.General{}, name.DN{}, nil},
		{nil, dn(1), []name.General{dir(dn(1))}},
		{[]name.General{machine("z"), mail, machine("a")}, nil, []name.General{machine("z"), mail, machine("a")}},
		{[]name.General{machine("z"), other, mail}, dn(1), []name.General{machine("z"), other, mail, dir(dn(1))}},
		{[]name.General{other, other}, dn(7), []name.General{other, other, other}},
		// Names that layer 10 refuses are names too.
		{[]name.General{{Kind: 3, Text: "x", Dir: dn(2)}, {}}, make(name.DN, 17), []name.General{{Kind: 3, Text: "x", Dir: dn(2)}, {}, dir(make(name.DN, 17))}},
		{make([]name.General, 1000), dn(1), append(make([]name.General, 1000), dir(dn(1)))},
	} {
		c := about(9, 8)
		c.Alt, c.Subject = x.alt, x.dn
		c.Permit, c.Exclude = []name.General{machine("p")}, []name.General{machine("e")}
		if got := Names(c); !same(got, x.want) {
			t.Errorf("%v, %v: %v, not %v", x.alt, x.dn, got, x.want)
		}
	}
}

// P12.1: within none of Exclude; within one of the Permit of its kind, if there are any.
func TestKeeps(t *testing.T) {
	list := func(all ...name.General) []name.General { return all }
	mail := func(text string) name.General { return name.General{Kind: 1, Text: text} }
	uri := func(text string) name.General { return name.General{Kind: 6, Text: text} }
	ip := func(text string) name.General { return name.General{Kind: 7, Text: text} }
	long := append(common("a"), common("b")...)
	for i, x := range []struct {
		n               name.General
		permit, exclude []name.General
		want            bool
	}{
		{machine("a.b"), nil, nil, true},
		{machine("a.b"), list(machine("b")), nil, true},
		{machine("a.b"), list(machine("c")), nil, false},
		{machine("a.b"), list(machine("c"), machine("d"), machine("b")), nil, true},
		{machine("a.b"), list(machine("b"), machine("c")), nil, true},
		{machine("a.b"), list(mail("c"), uri("c"), ip("\x01\x02\x03\x04\xff\xff\xff\xff"), dir(dn(1))), nil, true},
		{machine("a.b"), list(mail("a.b"), machine("c"), uri("a.b")), nil, false},
		{machine("a.b"), nil, list(machine("b")), false},
		{machine("a.b"), nil, list(machine("c")), true},
		{machine("a.b"), nil, list(machine("c"), machine("a.b")), false},
		{machine("a.b"), nil, list(mail("a.b"), uri("a.b")), true},
		{machine("a.b"), list(machine("b")), list(machine("a.b")), false},
		{machine("a.b"), list(machine("b")), list(machine("c.b")), true},
		{machine("a.b"), list(machine("")), nil, true},
		{machine("a.b"), nil, list(machine("")), false},
		{mail("x@a.b"), list(mail("a.b")), nil, true},
		{mail("x@a.b"), list(mail("y@a.b")), nil, false},
		{mail("x@a.b"), nil, list(mail(".b")), false},
		{uri("s://a.b/c"), list(uri("a.b")), nil, true},
		{uri("s://a.b/c"), list(uri("b")), nil, false},
		{uri("s://a.b/c"), nil, list(uri(".b")), false},
		{ip("\x01\x02\x03\x04"), list(ip("\x01\x02\x00\x00\xff\xff\x00\x00")), nil, true},
		{ip("\x01\x03\x03\x04"), list(ip("\x01\x02\x00\x00\xff\xff\x00\x00")), nil, false},
		// A long address is of the kind of which there are Permit, though all of these are short.
		{ip(strings.Repeat("\x01", 16)), list(ip("\x01\x01\x01\x01\x00\x00\x00\x00")), nil, false},
		{ip(strings.Repeat("\x01", 16)), nil, list(ip("\x01\x01\x01\x01\x00\x00\x00\x00")), true},
		{dir(long), list(dir(common("a"))), nil, true},
		{dir(long), list(dir(common("b"))), nil, false},
		{dir(long), nil, list(dir(nil)), false},
		{dir(common("a")), list(dir(long)), nil, false},
		// What layer 10 refuses lies within nothing, and nothing lies within it; a Permit of the kind it is all the same.
		{machine(""), nil, list(machine("")), true},
		{machine(""), list(machine("")), nil, false},
		{machine("a..b"), nil, list(machine("b")), true},
		{machine("a..b"), list(machine("b")), nil, false},
		{machine("a.b"), nil, list(name.General{Kind: 2, Text: "b", Dir: dn(1)}), true},
		{machine("a.b"), list(name.General{Kind: 2, Text: "b", Dir: dn(1)}), nil, false},
		{name.General{Kind: 3, Text: "a"}, list(name.General{Kind: 3, Text: "a"}), nil, false},
		{name.General{Kind: 3, Text: "a"}, list(machine("a")), list(name.General{Kind: 3, Text: "a"}), true},
		{name.General{}, nil, nil, true},
		{name.General{}, list(name.General{}), nil, false},
	} {
		c := cert.Cert{Permit: x.permit, Exclude: x.exclude}
		if got := Keeps(x.n, c); got != x.want || slowKeeps(x.n, c) != x.want {
			t.Errorf("%d: %+v in %+v: %v", i, x.n, c, got)
		}
	}
}
