package name

import (
	"math/rand"
	"net/netip"
	"strings"
	"testing"

	"chancery/api"
)

func checkWithin(t *testing.T, n, limit General) bool {
	t.Helper()
	got := Within(n, limit)
	if want := slowWithin(n, limit); got != want {
		t.Fatalf("%+v in %+v: %v", n, limit, got)
	}
	return got
}

// A row asks whether a text is within one as a limit.
type row struct {
	n, limit string
	want     bool
}

func checkRows(t *testing.T, kind int, rows []row) {
	t.Helper()
	for _, x := range rows {
		if got := checkWithin(t, General{Kind: kind, Text: x.n}, General{Kind: kind, Text: x.limit}); got != x.want {
			t.Errorf("%d: %q in %q: %v", kind, x.n, x.limit, got)
		}
	}
}

var (
	label63 = strings.Repeat("a", 63)
	label64 = strings.Repeat("a", 64)
)

// P10.5: machines' names.
func TestMachinesWithin(t *testing.T) {
	checkRows(t, 2, []row{
		{"a.B.example", "b.example", true}, {"ab.example", "b.example", false},
		{"a.b.c", "", true}, {"a", "", true}, {"a.b.c", "a.b.c", true}, {"a.b.c", "b.c", true}, {"a.b.c", "c", true}, {"a.b.c", "B.C", true}, {"A.B.C", "b.c", true}, {"A.B.C", "a.b.c", true}, {"AZ.az", "az.AZ", true},
		{"b.c", "a.b.c", false}, {"a.b.c", "a.b", false}, {"a.b.c", ".b.c", false}, {"a.b.c", ".c", false}, {"a.b.c", "b.c.", false}, {"a.b.c", ".", false}, {"a.b.c", " ", false}, {"a.b.c", "d", false}, {"ab", "b", false}, {"a.b", "b", true}, {"a.bb", "b", false},
		{"a-b.c", "b.c", false}, {"a.b-c", "c", false}, {"a.b-c", "B-C", true}, {"xa.b", "a.b", false}, {"a.b", "*.b", false}, {"a.b", "a@b", false},
		// What is no machine's name is within nothing, not even what is alike.
		{"a_b", "", false}, {"a_b", "a_b", false}, {"x.a_b", "a_b", false}, {".a", "", false}, {"a.", "", false}, {".", "", false}, {"a..b", "", false}, {"a..b", "b", false}, {"-a", "", false}, {"a-", "", false}, {"-", "", false}, {"a.-b", "", false}, {"a.b-", "", false}, {"-a.b", "b", false}, {"a-.b", "b", false}, {"*.b", "b", false}, {"a b", "", false}, {" a", "", false}, {"a\x00", "", false}, {"a/b", "", false}, {"a@b", "b", false}, {"[a", "", false}, {"a`", "", false}, {"a{", "", false}, {"@", "", false}, {"a:1", "", false},
		{"a-b", "", true}, {"a--b", "", true}, {"0", "", true}, {"9-0.1", "1", true}, {"Zz.Aa", "aA", true}, {"1.2.3.4", "4", true},
		{label63, "", true}, {label64, "", false}, {label63 + ".", "", false}, {label63, label63, true}, {label64, label64, false}, {label63[:62] + "-", "", false},
		{"a." + label63[:62], label63[:62], true}, {"", "", false}, {"\u00e9", "", false}, {"a", "\u00e9", false}, {"k", "\u212a", false},
	})
}

// P10.5: mail addresses.
func TestMailsWithin(t *testing.T) {
	checkRows(t, 1, []row{
		{"x@mail.b.example", ".b.example", true}, {"x@mail.b.example", "b.example", false},
		{"u@b.c", "", true}, {"u@b.c", "b.c", true}, {"u@B.c", "b.C", true}, {"u@a.b.c", "b.c", false}, {"u@a.b.c", ".b.c", true}, {"u@a.b.c", ".B.C", true}, {"u@A.B.C", ".b.c", true}, {"u@a.b.c", ".c", true}, {"u@b.c", ".b.c", false}, {"u@ab.c", ".b.c", false}, {"u@b.c", "c", false}, {"u@b.c", ".", false}, {"u@b.c", "b.c.", false}, {"u@b.c", "..c", false}, {"u@b.c", "b", false},
		{"u@b.c", "u@b.c", true}, {"u@b.c", "u@B.C", true}, {"u@B.C", "u@b.c", true}, {"u@b.c", "U@b.c", false}, {"U@b.c", "u@b.c", false}, {"U@b.c", "U@B.C", true}, {"u@b.c", "v@b.c", false}, {"u@b.c", "uu@b.c", false}, {"uu@b.c", "u@b.c", false}, {"u@a.b.c", "u@b.c", false}, {"u@a.b.c", "u@.b.c", false}, {"u@b.c", "@b.c", false}, {"u@b.c", "u@", false}, {"u@b.c", "@", false}, {"u@b.c", "u@b.c@", false}, {"u@b.c", "u@u@b.c", false}, {"u@b.c", "u@b.c@b.c", false},
		{".u@b.c", ".u@b.c", true}, {".u@b.c", ".u@B.c", true}, {"x@b.c", ".u@b.c", false}, {"u v_!\x01@b", "b", true}, {"u v_!\x01@b", "u v_!\x01@B", true}, {".@b", "b", true}, {"u.b.c@d", ".b.c", false},
		// What is no mail address is within nothing.
		{"@b.c", "", false}, {"@b.c", "@b.c", false}, {"u@", "", false}, {"u@", "u@", false}, {"@", "", false}, {"b.c", "", false}, {"b.c", "b.c", false}, {"a.b.c", ".b.c", false}, {"u@v@b.c", "", false}, {"u@v@b.c", "b.c", false}, {"u@v@b.c", "u@v@b.c", false}, {"u@@b", "", false}, {"u@b_c", "", false}, {"u@.b", "", false}, {"u@.b", ".b", false}, {"u@b.", "", false}, {"u@b..c", ".c", false}, {"u@-b", "", false}, {"u@b-", "", false}, {"u@b c", "", false},
		{"", "", false}, {"u@" + label63[:62], "", true}, {"u@" + label63, "", false}, {"u\u00e9@b", "", false},
	})
}

// P10.5: URIs.
func TestURIsWithin(t *testing.T) {
	checkRows(t, 6, []row{
		{"x://a.b", "", true}, {"x://a.b", "a.b", true}, {"x://a.b", "A.B", true}, {"x://A.B", "a.b", true}, {"x://a.b", ".b", true}, {"x://a.B", ".b", true}, {"x://a.b", ".B", true}, {"x://a.b.c", ".c", true}, {"x://a.b.c", ".b.c", true}, {"x://a.b", "b", false}, {"x://a.b", ".a.b", false}, {"x://aa.b", ".a.b", false}, {"x://ab", ".b", false}, {"x://a.b", "a", false}, {"x://a.b", ".", false}, {"x://a.b", "x://a.b", false}, {"x://a.b", "a.b/", false},
		{"x://a.b/", "a.b", true}, {"x://a.b/p", "a.b", true}, {"x://a.b:80", "a.b", true}, {"x://a.b:80/p", "a.b", true}, {"x://a.b?q", "a.b", true}, {"x://a.b#f", "a.b", true}, {"x://a.b#/:?", "a.b", true}, {"x://a.b:", ".b", true}, {"x://a.b?c.d", ".d", false}, {"x://a.b/c.d", ".d", false}, {"x://a.b:c.d", "c.d", false}, {"x://a.b#c.d", ".d", false}, {"x://a.b/ \x00_", "", true}, {"x://a/?x://c_d", "a", true},
		{"://a.b", "a.b", true}, {"x y://a.b", "a.b", true}, {"a:b/c://a.b", "a.b", true}, {"x:/://a.b", "a.b", true}, {"x:://a.b", "a.b", true}, {"x://a.b://c.d", "a.b", true}, {"x://a.b://c.d", "c.d", false}, {"x://a/://c.d", "c.d", false}, {"x://1.2.3.4", "1.2.3.4", true}, {"x://a-b", "a-b", true},
		// What has no machine's name is within nothing.
		{"a.b", "", false}, {"a.b", "a.b", false}, {"x:a.b", "", false}, {"x:/a.b", "", false}, {"//a.b", "", false}, {"x:/ /a.b", "", false}, {"x://", "", false}, {"x:///", "", false}, {"x:///a.b", "a.b", false}, {"x://:80", "", false}, {"x://?a", "", false}, {"x://#a", "", false}, {"://", "", false}, {"x://u@a.b", "", false}, {"x://u@a.b", "a.b", false}, {"x://u:p@a.b", "a.b", false}, {"x://[::1]/", "", false}, {"x://a_b", "", false}, {"x://a_b", "a_b", false}, {"x://.a", "", false}, {"x://.a", ".a", false}, {"x://a.", "", false}, {"x://a..b", ".b", false}, {"x://-a", "", false}, {"x://a b", "", false}, {"x://a\\b", "", false}, {"x://a;b", "", false}, {"x://_://c.d", "", false}, {"x://a_b://c.d", "c.d", false},
		{"", "", false}, {"x://" + label63[:60], "", true}, {"x://" + label63[:61], "", false}, {"x://\u00e9", "", false}, {"x://a", "\u00e9", false},
	})
}

// P10.5: addresses, also against the library's prefixes.
func TestAddressesWithin(t *testing.T) {
	checkRows(t, 7, []row{
		{four, "\x0a\x00\x00\x00\xff\x00\x00\x00", true}, {four, "\x0b\x00\x00\x00\xff\x00\x00\x00", false}, {four, "\x0a\x63\x63\x63\xff\x00\x00\x00", true}, {four, four + "\xff\xff\xff\xff", true}, {"\x0a\x01\x02\x02", four + "\xff\xff\xff\xff", false}, {"\x0a\x01\x02\x02", four + "\xff\xff\xff\xfe", true}, {"\x8a\x01\x02\x03", four + "\x80\x00\x00\x00", false}, {"\x7f\xff\xff\xff", four + "\x80\x00\x00\x00", true}, {"\xff\xff\xff\xff", four + "\x00\x00\x00\x00", true},
		{sixteen, sixteen + strings.Repeat("\xff", 16), true}, {sixteen, strings.Repeat("\x00", 32), true}, {four, strings.Repeat("\x00", 32), false}, {sixteen, strings.Repeat("\x00", 8), false}, {sixteen[:15] + "\x00", sixteen + strings.Repeat("\xff", 16), false}, {sixteen[:15] + "\x00", sixteen + strings.Repeat("\xff", 15) + "\x00", true},
		{four, "\x0a\x00\x00\x00\x00\xff\x00\x00", false}, {four, four + "\xff\x00\xff\x00", false}, {four, "", false}, {four, four, false}, {"", "", false}, {four + "\xff\xff\xff\xff", four + "\xff\xff\xff\xff", false}, {four[:3], four[:3] + "\xff\xff\xff", false},
	})
	r := rand.New(rand.NewSource(7))
	hits := 0
	for range 20000 {
		n, limit := drawnAddress(r, false), drawnAddress(r, true)
		half := len(limit) / 2
		address, _ := netip.AddrFromSlice([]byte(limit[:half]))
		asked, _ := netip.AddrFromSlice([]byte(n))
		ones := 0
		for _, c := range []byte(limit[half:]) {
			for ; c > 0; c <<= 1 {
				ones++
			}
		}
		want := netip.PrefixFrom(address, ones).Contains(asked)
		if got := checkWithin(t, General{Kind: 7, Text: n}, General{Kind: 7, Text: limit}); got != want {
			t.Fatalf("%x in %x: %v", n, limit, got)
		}
		if want {
			hits++
		}
	}
	if hits < 300 {
		t.Error(hits)
	}
}

// P10.5: DNs begin with the limit's attributes, letter by letter.
func TestDirsWithin(t *testing.T) {
	a, b, c, d := Attr{"2.5.4.3", "a"}, Attr{"2.5.4.3", "b"}, Attr{"2.5.4.3", "A"}, Attr{"2.5.4.4", "a"}
	for _, x := range []struct {
		n, limit DN
		want     bool
	}{
		{DN{a}, nil, true}, {DN{a}, DN{}, true}, {DN{a}, DN{a}, true}, {DN{a, b}, DN{a}, true}, {DN{a, b}, DN{a, b}, true}, {DN{a, b, c}, DN{a, b}, true},
		{DN{a}, DN{a, b}, false}, {DN{a, b}, DN{b}, false}, {DN{a, b}, DN{b, a}, false}, {DN{a}, DN{c}, false}, {DN{a}, DN{d}, false}, {DN{d}, DN{a}, false}, {DN{a, b}, DN{a, c}, false}, {DN{a, b, c}, DN{a, c}, false},
		{nil, nil, false}, {DN{}, DN{}, false}, {DN{{"x", "a"}}, nil, false}, {DN{a}, DN{{"x", "a"}}, false}, {DN{{"x", "a"}}, DN{{"x", "a"}}, false}, {DN{{"2.5.4.3", ""}}, nil, false}, {DN{a, {"2.5.4.3", ""}}, DN{a}, false},
		{times(16, a), times(16, a), true}, {times(17, a), DN{a}, false}, {times(16, a), times(17, a), false}, {times(17, a), times(17, a), false},
	} {
		if got := checkWithin(t, General{Kind: 4, Dir: x.n}, General{Kind: 4, Dir: x.limit}); got != x.want {
			t.Errorf("%q in %q: %v", x.n, x.limit, got)
		}
	}
}

// P10.5: unlike Kinds, and names and limits that Value refuses.
func TestWithinRefuses(t *testing.T) {
	d := DN{{"2.5.4.3", "a"}}
	right := []General{{Kind: 1, Text: "u@a.b"}, {Kind: 2, Text: "a.b"}, {Kind: 4, Dir: d}, {Kind: 6, Text: "x://a.b"}, {Kind: 7, Text: four}}
	limits := []General{{Kind: 1}, {Kind: 2}, {Kind: 4}, {Kind: 6}, {Kind: 7, Text: strings.Repeat("\x00", 8)}}
	for i, n := range right {
		for j, limit := range limits {
			if got := checkWithin(t, n, limit); got != (i == j) {
				t.Errorf("%+v in %+v: %v", n, limit, got)
			}
		}
		for _, kind := range []int{0, 3, 5, 8, -1} {
			wrong := n
			wrong.Kind = kind
			if checkWithin(t, wrong, wrong) || checkWithin(t, wrong, limits[i]) || checkWithin(t, n, General{Kind: kind}) {
				t.Errorf("a name of the Kind %d is within something", kind)
			}
		}
	}
	for _, x := range []struct{ n, limit General }{
		{General{Kind: 2, Text: "a", Dir: d}, General{Kind: 2}}, {General{Kind: 2, Text: "a"}, General{Kind: 2, Dir: d}}, {General{Kind: 1, Text: "u@a", Dir: d}, General{Kind: 1}}, {General{Kind: 7, Text: four, Dir: d}, limits[4]}, {General{Kind: 6, Text: "x://a"}, General{Kind: 6, Dir: d}},
		{General{Kind: 4, Text: "a", Dir: d}, General{Kind: 4}}, {General{Kind: 4, Dir: d}, General{Kind: 4, Text: "a"}}, {General{Kind: 4, Dir: d}, General{Kind: 4, Text: "a", Dir: d}},
		{General{Kind: 2, Text: "a." + label63}, General{Kind: 2}}, {General{Kind: 1, Text: label63 + "@a"}, General{Kind: 1}}, {General{Kind: 6, Text: "x://a/" + label63}, General{Kind: 6}}, {General{Kind: 1, Text: label63 + "@a"}, General{Kind: 1, Text: label63 + "@a"}},
		{General{Kind: 1, Text: "\xff@a"}, General{Kind: 1}}, {General{Kind: 6, Text: "x://a/\u00e9"}, General{Kind: 6}},
	} {
		if checkWithin(t, x.n, x.limit) {
			t.Errorf("%+v in %+v", x.n, x.limit)
		}
	}
}

// P10.5: texts of few letters against each other, of the Kinds that have them.
func TestWithinShort(t *testing.T) {
	texts := []string{""}
	for from := 0; len(texts) < 800; {
		to := len(texts)
		for _, s := range texts[from:to] {
			for _, c := range []string{"a", "A", ".", "@", "-", "_"} {
				texts = append(texts, s+c)
			}
		}
		from = to
	}
	hits := 0
	for _, kind := range []int{1, 2, 6} {
		for _, n := range texts {
			name := General{Kind: kind, Text: n}
			if kind == 6 {
				name.Text = "x://" + n
			}
			for _, s := range texts[:300] {
				limit := General{Kind: kind, Text: s}
				if Within(name, limit) != slowWithin(name, limit) {
					t.Fatalf("%q in %q", name.Text, s)
				}
				if Within(name, limit) {
					hits++
				}
			}
		}
	}
	if hits < 100 {
		t.Error(hits)
	}
}

// P10.5: names and limits, as they are and bent, many of them made of each other.
func TestWithinDrawn(t *testing.T) {
	r := rand.New(rand.NewSource(8))
	hits := [8]int{}
	for range 60000 {
		n, limit := drawnGeneral(r, false), drawnGeneral(r, true)
		switch {
		case r.Intn(2) == 0 && n.Kind == 4:
			limit = General{Kind: 4, Dir: n.Dir[:r.Intn(len(n.Dir)+1)]}
		case r.Intn(2) == 0:
			limit.Kind = n.Kind
		}
		if checkWithin(t, n, limit) {
			hits[n.Kind]++
		}
		checkWithin(t, bentGeneral(r, n), limit)
		checkWithin(t, n, bentGeneral(r, limit))
	}
	for _, kind := range []int{1, 2, 4, 6, 7} {
		if hits[kind] < 50 {
			t.Errorf("of the Kind %d %d alone lay within", kind, hits[kind])
		}
	}
}

// P10.5 and P10.4: a name that is within something can be written, and read again is within it too.
func TestWithinOfWhatIsRead(t *testing.T) {
	n, limit := General{Kind: 2, Text: "a.B.example"}, General{Kind: 2, Text: "b.example"}
	v, e := n.Value(false)
	w, f := limit.Value(true)
	a, g := ParseGeneral(v, false)
	b, h := ParseGeneral(w, true)
	if e != api.OK || f != api.OK || g != api.OK || h != api.OK || !Within(a, b) {
		t.Error(a, b)
	}
}
