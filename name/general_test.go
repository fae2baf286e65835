package name

import (
	"bytes"
	"math"
	"math/rand"
	"strings"
	"testing"

	"chancery/api"
	"chancery/der"
)

func checkParseGeneral(t *testing.T, v der.Value, limit bool) api.Errno {
	t.Helper()
	g, e := ParseGeneral(v, limit)
	want, wantE := slowParseGeneral(v, limit)
	if !sameGeneral(g, want) || e != wantE {
		t.Fatalf("%+v, %v: %+v, %d, not %+v, %d", v, limit, g, e, want, wantE)
	}
	if e != api.OK {
		return e
	}
	if back, f := g.Value(limit); f != api.OK || !same(back, v) {
		t.Fatalf("%+v, %v is read as %+v, which is written as %+v, %d", v, limit, g, back, f)
	}
	return e
}

func checkGeneral(t *testing.T, g General, limit bool) api.Errno {
	t.Helper()
	v, e := g.Value(limit)
	want, wantE := slowGeneral(g, limit)
	if !same(v, want) || e != wantE {
		t.Fatalf("%+v, %v: %+v, %d, not %+v, %d", g, limit, v, e, want, wantE)
	}
	if e != api.OK {
		return e
	}
	if back, f := ParseGeneral(v, limit); f != api.OK || !sameGeneral(back, g) || !writable(v) {
		t.Fatalf("%+v, %v is written as %+v, which is read as %+v, %d", g, limit, v, back, f)
	}
	return e
}

// kind is a value of the class 2 that isn't made.
func kind(tag int, text string) der.Value {
	return der.Value{Class: 2, Tag: tag, Bytes: []byte(text)}
}

// dir is a value of the class 2 and the Kind 4.
func dir(kids ...der.Value) der.Value {
	return der.Value{Class: 2, Tag: 4, Made: true, Kids: kids}
}

const (
	four    = "\x0a\x01\x02\x03"
	sixteen = "\x20\x01\x0d\xb8\x00\x00\x00\x00\x00\x00\x00\x00\x00\x00\x00\x01"
)

// P10.4: names and their bytes, written down.
func TestGeneralsInBytes(t *testing.T) {
	for in, g := range map[string]General{
		"81 03 75 40 61":       {Kind: 1, Text: "u@a"},
		"82 03 61 2e 62":       {Kind: 2, Text: "a.b"},
		"86 05 78 3a 2f 2f 61": {Kind: 6, Text: "x://a"},
		"87 04 0a 01 02 03":    {Kind: 7, Text: four},
		"a4 0e 30 0c 31 0a 30 08 06 03 55 04 03 13 01 61": {Kind: 4, Dir: DN{{"2.5.4.3", "a"}}},
	} {
		b := unhex(t, in)
		read, e := der.Read(b)
		if got, f := ParseGeneral(read, false); e != api.OK || f != api.OK || !sameGeneral(got, g) {
			t.Errorf("%s: %+v, %d", in, got, f)
		}
		v, f := g.Value(false)
		if got, e := der.Write(v); e != api.OK || f != api.OK || !bytes.Equal(got, b) {
			t.Errorf("%+v: %x, %d", g, got, f)
		}
	}
}

// P10.4: the errors of a value, as a name and as a limit.
func TestParseGeneralErrors(t *testing.T) {
	a := attrSeq(printable("a"))
	nested := a
	for range 15 {
		nested = seq(nested)
	}
	for i, x := range []struct {
		v               der.Value
		asName, asLimit api.Errno
	}{
		// Class, tag and form.
		{der.Value{}, api.ErrForm, api.ErrForm}, {printable("a"), api.ErrForm, api.ErrForm}, {seq(), api.ErrForm, api.ErrForm}, {der.Value{Tag: 1, Bytes: []byte{255}}, api.ErrForm, api.ErrForm}, {der.Value{Tag: 6, Bytes: []byte{42}}, api.ErrForm, api.ErrForm},
		{der.Value{Class: 1, Tag: 2, Bytes: []byte("a")}, api.ErrForm, api.ErrForm}, {der.Value{Class: 3, Tag: 2, Bytes: []byte("a")}, api.ErrForm, api.ErrForm}, {der.Value{Class: 1, Tag: 4, Made: true, Kids: []der.Value{a}}, api.ErrForm, api.ErrForm},
		{kind(0, "a"), api.ErrForm, api.ErrForm}, {kind(3, "a"), api.ErrForm, api.ErrForm}, {kind(4, "a"), api.ErrForm, api.ErrForm}, {kind(4, ""), api.ErrForm, api.ErrForm}, {kind(5, "a"), api.ErrForm, api.ErrForm}, {kind(8, "a"), api.ErrForm, api.ErrForm}, {kind(9, four), api.ErrForm, api.ErrForm}, {kind(1<<20, ""), api.ErrForm, api.ErrForm},
		{der.Value{Class: 2, Tag: 1, Made: true}, api.ErrForm, api.ErrForm}, {der.Value{Class: 2, Tag: 2, Made: true, Kids: []der.Value{a}}, api.ErrForm, api.ErrForm}, {der.Value{Class: 2, Tag: 6, Made: true}, api.ErrForm, api.ErrForm}, {der.Value{Class: 2, Tag: 7, Made: true}, api.ErrForm, api.ErrForm}, {der.Value{Class: 2, Tag: 5, Made: true, Kids: []der.Value{a}}, api.ErrForm, api.ErrForm},
		{dir(), api.ErrForm, api.ErrForm}, {dir(a, a), api.ErrForm, api.ErrForm}, {dir(seq(), seq()), api.ErrForm, api.ErrForm},
		// What layer 9 can't write.
		{der.Value{Class: 2, Tag: 2, Made: true, Bytes: []byte("a")}, api.ErrForm, api.ErrForm}, {der.Value{Class: 2, Tag: 2, Bytes: []byte("a"), Kids: []der.Value{a}}, api.ErrForm, api.ErrForm}, {der.Value{Class: 2, Tag: 4, Made: true, Bytes: []byte{1}, Kids: []der.Value{a}}, api.ErrForm, api.ErrForm},
		{dir(attrSeq(printable("*"))), api.ErrForm, api.ErrForm}, {dir(attrSeq(utf("\xff"))), api.ErrForm, api.ErrForm}, {dir(der.Value{Tag: 16}), api.ErrForm, api.ErrForm}, {kind(2, strings.Repeat("a", 65536)), api.ErrForm, api.ErrForm}, {kind(2, strings.Repeat("a", 65532)), api.ErrName, api.ErrName}, {dir(nested), api.ErrForm, api.ErrForm},
		{der.Value{Class: -2, Tag: 2, Bytes: []byte("a")}, api.ErrForm, api.ErrForm}, {kind(-1, "a"), api.ErrForm, api.ErrForm},
		// Texts.
		{kind(1, ""), api.ErrName, api.OK}, {kind(2, ""), api.ErrName, api.OK}, {kind(6, ""), api.ErrName, api.OK}, {kind(7, ""), api.ErrName, api.ErrName},
		{kind(1, "a"), api.OK, api.OK}, {kind(2, "_ .\x00\x7f"), api.OK, api.OK}, {kind(6, "a"), api.OK, api.OK}, {kind(1, "\x80"), api.ErrName, api.ErrName}, {kind(2, "a\xff"), api.ErrName, api.ErrName}, {kind(6, "\u00e9"), api.ErrName, api.ErrName}, {kind(2, "\ufffd"), api.ErrName, api.ErrName}, {kind(2, "\u0080"), api.ErrName, api.ErrName}, {kind(1, "a\u0080"), api.ErrName, api.ErrName},
		{kind(1, strings.Repeat("a", 64)), api.OK, api.OK}, {kind(2, strings.Repeat("a", 64)), api.OK, api.OK}, {kind(6, strings.Repeat("a", 64)), api.OK, api.OK}, {kind(1, strings.Repeat("a", 65)), api.ErrName, api.ErrName}, {kind(2, strings.Repeat("a", 65)), api.ErrName, api.ErrName}, {kind(6, strings.Repeat("a", 65)), api.ErrName, api.ErrName},
		// Addresses.
		{kind(7, four), api.OK, api.ErrName}, {kind(7, sixteen), api.OK, api.ErrName}, {kind(7, four+four), api.ErrName, api.ErrName}, {kind(7, four+"\xff\xff\xff\x00"), api.ErrName, api.OK}, {kind(7, sixteen+strings.Repeat("\xff", 16)), api.ErrName, api.OK}, {kind(7, sixteen+strings.Repeat("\x00", 16)), api.ErrName, api.OK},
		{kind(7, "\xff\xff\x80\x00"), api.OK, api.ErrName}, {kind(7, strings.Repeat("\xff", 16)), api.OK, api.ErrName},
		{kind(7, four+"\x00\xff\x00\x00"), api.ErrName, api.ErrName}, {kind(7, four+"\xfe\x80\x00\x00"), api.ErrName, api.ErrName}, {kind(7, four+"\xff\xfd\x00\x00"), api.ErrName, api.ErrName}, {kind(7, four+"\x01\x00\x00\x00"), api.ErrName, api.ErrName}, {kind(7, four+"\x80\x00\x00\x00"), api.ErrName, api.OK}, {kind(7, four+"\xff\xff\xff\xfe"), api.ErrName, api.OK}, {kind(7, four+"\xff\xff\xff\xfd"), api.ErrName, api.ErrName}, {kind(7, four+"\x00\x00\x00\x01"), api.ErrName, api.ErrName},
		{kind(7, sixteen+strings.Repeat("\xff", 15)+"\x7f"), api.ErrName, api.ErrName}, {kind(7, sixteen+strings.Repeat("\xff", 7)+"\xe0"+strings.Repeat("\x00", 8)), api.ErrName, api.OK}, {kind(7, sixteen+strings.Repeat("\xff", 7)+"\xe0"+strings.Repeat("\x00", 7)+"\x01"), api.ErrName, api.ErrName},
		// DNs.
		{dir(a), api.OK, api.OK}, {dir(seq()), api.ErrName, api.OK}, {dir(attrSeq(utf("a"))), api.ErrName, api.ErrName}, {dir(attrSeq(printable(""))), api.ErrName, api.ErrName}, {dir(seq(set())), api.ErrName, api.ErrName}, {dir(der.Value{Tag: 5}), api.ErrName, api.ErrName}, {dir(set()), api.ErrName, api.ErrName}, {dir(a.Kids[0]), api.ErrName, api.ErrName},
		{dir(seq(times(16, a.Kids[0])...)), api.OK, api.OK}, {dir(seq(times(17, a.Kids[0])...)), api.ErrName, api.ErrName}, {dir(dir(a)), api.ErrName, api.ErrName},
	} {
		if e := checkParseGeneral(t, x.v, false); e != x.asName {
			t.Errorf("%d: %+v: %d, not %d", i, x.v, e, x.asName)
		}
		if e := checkParseGeneral(t, x.v, true); e != x.asLimit {
			t.Errorf("%d: %+v as a limit: %d, not %d", i, x.v, e, x.asLimit)
		}
	}
}

// P10.4: the errors of a name, as one and as a limit.
func TestGeneralErrors(t *testing.T) {
	d := DN{{"2.5.4.3", "a"}}
	for i, x := range []struct {
		g               General
		asName, asLimit api.Errno
	}{
		{General{}, api.ErrForm, api.ErrForm}, {General{Kind: 3, Text: "a"}, api.ErrForm, api.ErrForm}, {General{Kind: 5}, api.ErrForm, api.ErrForm}, {General{Kind: 8, Text: "a"}, api.ErrForm, api.ErrForm}, {General{Kind: -1, Text: "a"}, api.ErrForm, api.ErrForm}, {General{Kind: -2, Text: "a"}, api.ErrForm, api.ErrForm}, {General{Kind: 5, Dir: d}, api.ErrForm, api.ErrForm},
		{General{Kind: math.MaxInt, Text: "a"}, api.ErrForm, api.ErrForm}, {General{Kind: math.MinInt}, api.ErrForm, api.ErrForm}, {General{Kind: 1<<32 + 2, Text: "a"}, api.ErrForm, api.ErrForm},
		{General{Kind: 1, Text: "a", Dir: d}, api.ErrForm, api.ErrForm}, {General{Kind: 2, Dir: d}, api.ErrForm, api.ErrForm}, {General{Kind: 6, Text: "\xff", Dir: d}, api.ErrForm, api.ErrForm}, {General{Kind: 7, Text: four, Dir: DN{{}}}, api.ErrForm, api.ErrForm}, {General{Kind: 7, Dir: d}, api.ErrForm, api.ErrForm},
		{General{Kind: 4, Text: "a"}, api.ErrForm, api.ErrForm}, {General{Kind: 4, Text: "a", Dir: d}, api.ErrForm, api.ErrForm}, {General{Kind: 4, Text: "\xff", Dir: DN{{}}}, api.ErrForm, api.ErrForm},
		{General{Kind: 2, Text: "a", Dir: DN{}}, api.OK, api.OK}, {General{Kind: 1, Text: "a"}, api.OK, api.OK}, {General{Kind: 6, Text: "a"}, api.OK, api.OK},
		{General{Kind: 1}, api.ErrName, api.OK}, {General{Kind: 2}, api.ErrName, api.OK}, {General{Kind: 6}, api.ErrName, api.OK}, {General{Kind: 7}, api.ErrName, api.ErrName},
		{General{Kind: 1, Text: strings.Repeat("\x7f", 64)}, api.OK, api.OK}, {General{Kind: 1, Text: strings.Repeat("a", 65)}, api.ErrName, api.ErrName}, {General{Kind: 2, Text: strings.Repeat("a", 65)}, api.ErrName, api.ErrName}, {General{Kind: 6, Text: strings.Repeat("a", 65)}, api.ErrName, api.ErrName}, {General{Kind: 2, Text: "\x80"}, api.ErrName, api.ErrName}, {General{Kind: 2, Text: "\u0080"}, api.ErrName, api.ErrName}, {General{Kind: 6, Text: "\u00e9"}, api.ErrName, api.ErrName},
		{General{Kind: 7, Text: four}, api.OK, api.ErrName}, {General{Kind: 7, Text: sixteen}, api.OK, api.ErrName}, {General{Kind: 7, Text: four + "\xff\x00\x00\x00"}, api.ErrName, api.OK}, {General{Kind: 7, Text: four + "\x00\xff\x00\x00"}, api.ErrName, api.ErrName}, {General{Kind: 7, Text: sixteen + strings.Repeat("\xff", 16)}, api.ErrName, api.OK},
		{General{Kind: 4}, api.ErrName, api.OK}, {General{Kind: 4, Dir: DN{}}, api.ErrName, api.OK}, {General{Kind: 4, Dir: d}, api.OK, api.OK}, {General{Kind: 4, Dir: DN{{"x", "a"}}}, api.ErrName, api.ErrName}, {General{Kind: 4, Dir: DN{{"2.5.4.3", ""}}}, api.ErrName, api.ErrName}, {General{Kind: 4, Dir: times(16, d[0])}, api.OK, api.OK}, {General{Kind: 4, Dir: times(17, d[0])}, api.ErrName, api.ErrName},
	} {
		if e := checkGeneral(t, x.g, false); e != x.asName {
			t.Errorf("%d: %+v: %d, not %d", i, x.g, e, x.asName)
		}
		if e := checkGeneral(t, x.g, true); e != x.asLimit {
			t.Errorf("%d: %+v as a limit: %d, not %d", i, x.g, e, x.asLimit)
		}
	}
}

// P10.4: texts of all lengths, of all Kinds.
func TestGeneralLengths(t *testing.T) {
	for kind := -1; kind < 10; kind++ {
		for n := range 70 {
			for _, c := range []string{"\x00", "a", "\x7f", "\x80", "\xff"} {
				for _, limit := range []bool{false, true} {
					g := General{Kind: kind, Text: strings.Repeat(c, n)}
					checkGeneral(t, g, limit)
					checkParseGeneral(t, der.Value{Class: 2, Tag: kind, Bytes: []byte(g.Text)}, limit)
				}
			}
		}
	}
}

// P10.4: masks of every length in bits, and with one bit wrong.
func TestMasks(t *testing.T) {
	for _, size := range []int{4, 16} {
		for ones := range 8*size + 1 {
			mask := make([]byte, size)
			for i := range ones {
				mask[i/8] |= 0x80 >> (i % 8)
			}
			address := strings.Repeat("\xa5", size)
			if e := checkGeneral(t, General{Kind: 7, Text: address + string(mask)}, true); e != api.OK {
				t.Errorf("%x: %d", mask, e)
			}
			for i := range 8 * size {
				wrong := bytes.Clone(mask)
				wrong[i/8] ^= 0x80 >> (i % 8)
				want := api.ErrName
				if i == ones || i == ones-1 {
					want = api.OK
				}
				if e := checkGeneral(t, General{Kind: 7, Text: address + string(wrong)}, true); e != want {
					t.Errorf("%x: %d", wrong, e)
				}
			}
		}
	}
}

func drawnAddress(r *rand.Rand, limit bool) string {
	size := []int{4, 16}[r.Intn(2)]
	b := make([]byte, size)
	for i := range b {
		b[i] = byte(r.Intn(2)) << r.Intn(8)
	}
	if limit {
		ones := r.Intn(8*size + 1)
		for i := range size {
			b = append(b, byte(int(0xff00)>>max(0, min(8, ones-8*i))))
		}
	}
	return string(b)
}

func drawnMachine(r *rand.Rand) string {
	labels := []string{"a", "b", "c", "B", "a-b", "0", "x1"}
	text := labels[r.Intn(len(labels))]
	for range r.Intn(4) {
		text += "." + labels[r.Intn(len(labels))]
	}
	return text
}

// drawnGeneral is a right name, or a right limit.
func drawnGeneral(r *rand.Rand, limit bool) General {
	point := ""
	if limit && r.Intn(3) == 0 {
		point = "."
	}
	switch r.Intn(5) {
	case 0:
		text := []string{"u@", "U@", "v.w@"}[r.Intn(3)] + drawnMachine(r)
		if limit && r.Intn(2) == 0 {
			text = point + drawnMachine(r)
		}
		return General{Kind: 1, Text: text}
	case 1:
		return General{Kind: 2, Text: point + drawnMachine(r)}
	case 2:
		d := drawnDN(r)
		if len(d) == 0 && !limit {
			d = DN{{"2.5.4.3", "a"}}
		}
		return General{Kind: 4, Dir: d}
	case 3:
		text := []string{"x://", "://", "http://"}[r.Intn(3)] + drawnMachine(r) + []string{"", "/", ":80", "?q", "#f", "/://b"}[r.Intn(6)]
		if limit {
			text = point + drawnMachine(r)
		}
		return General{Kind: 6, Text: text}
	}
	return General{Kind: 7, Text: drawnAddress(r, limit)}
}

// bentGeneral is a name with something changed in it.
func bentGeneral(r *rand.Rand, g General) General {
	switch {
	case r.Intn(8) == 0:
		g.Kind = r.Intn(9)
	case r.Intn(12) == 0:
		g.Dir = drawnDN(r)
	case r.Intn(12) == 0:
		g.Text = drawnText(r)
	case g.Kind == 4:
		g.Dir = bentDN(r, g.Dir)
	default:
		g.Text = bentText(r, g.Text)
	}
	return g
}

// P10.4: names and limits, as they are and bent.
func TestGeneralsDrawn(t *testing.T) {
	r := rand.New(rand.NewSource(6))
	read, written := map[api.Errno]int{}, map[api.Errno]int{}
	for range 20000 {
		limit := r.Intn(2) == 0
		g := drawnGeneral(r, limit)
		if e := checkGeneral(t, g, limit); e != api.OK {
			t.Fatalf("%+v: %d", g, e)
		}
		checkGeneral(t, g, !limit)
		v, _ := g.Value(limit)
		written[checkGeneral(t, bentGeneral(r, g), limit)]++
		read[checkParseGeneral(t, bentValue(r, v), limit)]++
		read[checkParseGeneral(t, bentValue(r, v), !limit)]++
	}
	for _, e := range []api.Errno{api.OK, api.ErrForm, api.ErrName} {
		if read[e] < 300 || written[e] < 300 {
			t.Errorf("%d came %d and %d times alone", e, read[e], written[e])
		}
	}
}
