package store

import (
	"math"
	"slices"
	"testing"

	"chancery/api"
	"chancery/plate"
)

// laid is a plate of 40 sectors with a log of records, and its mark.
func laid(t *testing.T, generation int, records ...[]byte) *plate.Plate {
	t.Helper()
	p := newPlate(t, 40)
	lay(t, p, generation%2, slowMark(generation))
	layLog(t, p, generation, records...)
	return p
}

// layLog lays a generation's records in its half of a plate of 40 sectors.
func layLog(t *testing.T, p *plate.Plate, generation int, records ...[]byte) {
	t.Helper()
	at := 21 - 19*(generation%2)
	for i, r := range records {
		sectors := slowSectors(generation, 1, i+1, r)
		lay(t, p, at, sectors...)
		at += len(sectors)
	}
}

// P15.1: the chapter's example.
func TestExample(t *testing.T) {
	p := newPlate(t, 40)
	s := open(t, p)
	if s.Generation() != 1 || len(s.Keys(nil)) != 0 {
		t.Error("a new plate has", s.Keys(nil), "of the generation", s.Generation())
	}
	commit(t, s, set("a", "1"), set("b", "2"), gone("a"))
	for _, x := range []*Store{s, open(t, p)} {
		if v, ok := x.Get([]byte("b")); !ok || string(v) != "2" {
			t.Errorf("b is %q, %v", v, ok)
		}
		if v, ok := x.Get([]byte("a")); ok || len(v) > 0 {
			t.Errorf("a is %q, %v", v, ok)
		}
	}
}

// P15.1: what stands on a new plate, of each number of sectors.
func TestNewPlate(t *testing.T) {
	for _, sectors := range []int{8, 9, 10, 11, 40, 41, 3000, api.MaxSectors} {
		p := newPlate(t, sectors)
		s := open(t, p)
		m := newSlow(sectors)
		stands(t, p, s, m)
		m.reopen()
		stands(t, p, open(t, p), m)
	}
}

// P15.1: opening what is there writes nothing, and needs not do so.
func TestOpenWritesNothing(t *testing.T) {
	p := newPlate(t, 12)
	s := open(t, p)
	for i := range 20 {
		commit(t, s, set("k", many('v', i)))
		before := content(p)
		p.Arm(0)
		s = open(t, p)
		if p.Down() || content(p) != before {
			t.Fatal("something was written")
		}
		p.Arm(-1)
	}
}

// P15.1: the plate's error; nothing is answered beside it.
func TestOpenDown(t *testing.T) {
	for after := range 6 {
		p := newPlate(t, 8)
		p.Arm(after)
		s, e := Open(p)
		if s != nil || e != api.ErrCrash || !p.Down() {
			t.Errorf("armed with %d: Open is %v, %d", after, s, e)
		}
		if s, e = Open(p); s != nil || e != api.ErrCrash {
			t.Errorf("down: Open is %v, %d", s, e)
		}
	}
	p := newPlate(t, 8)
	p.Arm(6)
	open(t, p)
	p.Arm(0)
	expect(t, "Sync", p.Sync(), api.ErrCrash)
	if s, e := Open(p); s != nil || e != api.ErrCrash {
		t.Errorf("down, with a mark: Open is %v, %d", s, e)
	}
	broken := laid(t, 3, []byte{7})
	broken.Arm(0)
	expect(t, "Sync", broken.Sync(), api.ErrCrash)
	if s, e := Open(broken); s != nil || e != api.ErrCrash {
		t.Errorf("down, without a store: Open is %v, %d", s, e)
	}
}

// P15.1: the pairs are those that all records lead to.
func TestRecords(t *testing.T) {
	for _, generation := range []int{1, 2, 3, 4, 255, 256, 65536, 0x01020304, math.MaxInt32 - 1, math.MaxInt32} {
		s := open(t, laid(t, generation, slowBytes(set("a", "1"), set("b", "")), slowBytes(gone("a")), nil, slowBytes(set("c", "3"), set("b", "4"), gone("z"))))
		holds(t, s, map[string]string{"b": "4", "c": "3"})
		if s.Generation() != generation {
			t.Errorf("the generation is %d, want %d", s.Generation(), generation)
		}
	}
}

// P15.1: the first record is a list of changes like any other.
func TestFirstRecords(t *testing.T) {
	holds(t, open(t, laid(t, 1, nil)), nil)
	holds(t, open(t, laid(t, 1, slowBytes(set("b", "1"), set("a", "2"), set("b", "3"), gone("a")))), map[string]string{"b": "3"})
	holds(t, open(t, laid(t, 2, slowBytes(gone("a")), slowBytes(set("a", "2")))), map[string]string{"a": "2"})
}

// P15.1: the lengths of keys and values at their edges, and what is no list of changes.
func TestBrokenRecords(t *testing.T) {
	good := slowBytes(set("a", "1"))
	for what, r := range map[string][]byte{
		"key of 1":         slowBytes(set("k", "v")),
		"key of 32":        slowBytes(set(many('k', 32), "v")),
		"removal of 1":     slowBytes(gone("k")),
		"removal of 32":    slowBytes(gone(many('k', 32))),
		"value of 0":       slowBytes(set("k", "")),
		"nothing":          nil,
		"many":             slowBytes(set("k", ""), gone("k"), gone("k"), set("l", many('l', 256))),
		"a key of noughts": slowBytes(set(many(0, 32), many(0, 40))),
	} {
		if _, e := Open(laid(t, 1, good, r, good)); e != api.OK {
			t.Errorf("%s: %d", what, e)
		}
	}
	for what, r := range map[string][]byte{
		"byte 2":                  {2, 1, 'k', 0, 0, 0, 0},
		"byte 255":                {255, 1, 'k', 0, 0, 0, 0},
		"a byte alone":            {1},
		"a removal's byte alone":  {0},
		"no key":                  {1, 0, 0, 0, 0, 0},
		"a removal without a key": {0, 0},
		"key of 33":               slowBytes(set(many('k', 33), "v")),
		"removal of 33":           slowBytes(gone(many('k', 33))),
		"key of 255":              slowBytes(set(many('k', 255), "v")),
		"half a key":              {1, 2, 'k'},
		"half a removal":          {0, 2, 'k'},
		"no length":               {1, 1, 'k'},
		"half a length":           {1, 1, 'k', 0, 0, 0},
		"half a value":            {1, 1, 'k', 0, 0, 0, 2, 'v'},
		"a greatest length":       {1, 1, 'k', 255, 255, 255, 255, 'v'},
		"a length past its bytes": {1, 1, 'k', 1, 0, 0, 1, 'v'},
		"a byte behind it":        append(slowBytes(set("k", "v")), 1),
		"a nought behind it":      append(slowBytes(set("k", "v")), 0),
		"a removal with a value":  {0, 1, 'k', 0, 0, 0, 1, 'v'},
		"good ones and a bad one": append(slowBytes(set("k", "v"), gone("k")), 9),
	} {
		refused(t, what+" first", laid(t, 1, r, good), api.ErrDisk)
		refused(t, what+" last", laid(t, 2, good, r), api.ErrDisk)
		refused(t, what+" between", laid(t, 3, good, r, good), api.ErrDisk)
	}
}

// P15.1: values of 2^13 bytes, and of one more.
func TestLongRecords(t *testing.T) {
	for length, want := range map[int]api.Errno{api.MaxValue: api.OK, api.MaxValue + 1: api.ErrDisk} {
		p := newPlate(t, 1000)
		lay(t, p, 1, slowMark(1))
		lay(t, p, 2, slowSectors(1, 1, 1, slowBytes(set("k", many('v', length)), set("l", "")))...)
		if _, e := Open(p); e != want {
			t.Errorf("a value of %d bytes: %d, want %d", length, e, want)
		}
	}
}

// P15.1: a mark whose log has no first record.
func TestMarkWithoutLog(t *testing.T) {
	refused(t, "no log", laid(t, 1), api.ErrDisk)
	p := laid(t, 1)
	layLog(t, p, 2, slowBytes(set("a", "1")))
	layLog(t, p, 3, slowBytes(set("a", "1")))
	refused(t, "a log of another generation", p, api.ErrDisk)
	p = laid(t, 2, slowBytes(set("a", "1")))
	lay(t, p, 21, make([]byte, 64))
	refused(t, "a log that is cut off", p, api.ErrDisk)
	p = laid(t, 4)
	lay(t, p, 2, slowSectors(4, 1, 1, slowBytes(set("a", "1")))...)
	refused(t, "a log in the other half", p, api.ErrDisk)
	p = laid(t, 4)
	lay(t, p, 21, slowSectors(4, 1, 2, slowBytes(set("a", "1")))...)
	refused(t, "a second record alone", p, api.ErrDisk)
}

// P15.1: the greater of two marks, at either place; the other log isn't asked, be it good or not.
func TestGreaterMark(t *testing.T) {
	for _, pair := range [][2]int{{1, 2}, {2, 3}, {1, 4}, {3, 2}, {7, 4}, {256, 255}, {65535, 256}, {math.MaxInt32, 2}} {
		greater, other := max(pair[0], pair[1]), min(pair[0], pair[1])
		p := laid(t, greater, slowBytes(set("a", "new")))
		lay(t, p, other%2, slowMark(other))
		holds(t, open(t, p.Clone()), map[string]string{"a": "new"})
		layLog(t, p, other, slowBytes(set("a", "old")))
		s := open(t, p)
		holds(t, s, map[string]string{"a": "new"})
		if s.Generation() != greater {
			t.Errorf("of the marks %v: %d", pair, s.Generation())
		}
		p = laid(t, other, slowBytes(set("a", "old")))
		lay(t, p, greater%2, slowMark(greater))
		refused(t, "only the lower one's log", p, api.ErrDisk)
		layLog(t, p, greater, []byte{9})
		refused(t, "the greater one's log is broken", p, api.ErrDisk)
	}
}

// P15.1: a sector that isn't just of a mark's form is none: the other one is taken.
func TestNoMark(t *testing.T) {
	other := func(sector []byte) {
		t.Helper()
		p := laid(t, 2, slowBytes(set("a", "1")))
		lay(t, p, 1, sector)
		s := open(t, p)
		if s.Generation() != 2 {
			t.Fatalf("%x is taken for a mark of the generation %d", sector, s.Generation())
		}
		holds(t, s, map[string]string{"a": "1"})
	}
	for bit := range 512 {
		sector := slowMark(0x01020305)
		sector[bit/8] ^= 1 << (bit % 8)
		other(sector)
	}
	for at := range 64 {
		sector := slowMark(77)
		sector[at]++
		other(sector)
	}
	other(make([]byte, 64))
	other(slices.Repeat([]byte{255}, 64))
	other(slowMark(0))
	other(slowMark(4))              // it stands in the sector 0
	other(slowMark(1<<31 + 1))      // no generation
	other(slowMark(math.MaxUint32)) // nor this
}

// P15.1: without any mark the generation 1 begins, whatever else stands there.
func TestBeginsAnew(t *testing.T) {
	for _, marks := range [][2][]byte{
		{slowMark(0), slowMark(1 << 31)},
		{slowMark(3), slowMark(2)},
		{slowMark(1 << 31), slices.Repeat([]byte{1}, 64)},
	} {
		p := newPlate(t, 40)
		lay(t, p, 0, marks[0], marks[1])
		layLog(t, p, 1, slowBytes(set("a", "1")), slowBytes(set("b", "2")))
		s := open(t, p)
		holds(t, s, nil)
		commit(t, s, set("c", "3"))
		s = open(t, p)
		holds(t, s, map[string]string{"c": "3"})
		if s.Generation() != 1 {
			t.Error(s.Generation())
		}
	}
}

// P15.1: what is left of an earlier beginning is cut off, and the opening counts it.
func TestCutOff(t *testing.T) {
	m := newSlow(40)
	p := newPlate(t, 40)
	left := slowSectors(1, 5, 1, slowBytes(set("long", many('x', 100))))
	lay(t, p, 2, left...)
	copy(m.sectors[2:], left)
	m.begin(1, map[string]string{})
	if m.opening != 6 {
		t.Fatal(m.opening)
	}
	stands(t, p, open(t, p), m)
}

// P15.1: values by their keys, keys by their beginning.
func TestGetAndKeys(t *testing.T) {
	s := open(t, newPlate(t, 100))
	all := []string{"\x00", "\x00\x00", "a", "aa", "ab", "b", "ba", "\x7f", "\x80", "\xff", "\xff\x00", "\xff\xff"}
	var list []Change
	for _, k := range all {
		list = append(list, set(k, "of "+k))
	}
	slices.Reverse(list)
	commit(t, s, list...)
	slices.Sort(all)
	for prefix, want := range map[string][]string{
		"":          all,
		"a":         {"a", "aa", "ab"},
		"aa":        {"aa"},
		"aaa":       nil,
		"\xff":      {"\xff", "\xff\x00", "\xff\xff"},
		"\x00":      {"\x00", "\x00\x00"},
		"c":         nil,
		many(0, 99): nil,
	} {
		var got []string
		for _, k := range s.Keys([]byte(prefix)) {
			got = append(got, string(k))
		}
		if !slices.Equal(got, want) {
			t.Errorf("Keys(%q) are %q, want %q", prefix, got, want)
		}
	}
	for _, k := range all {
		if v, ok := s.Get([]byte(k)); !ok || string(v) != "of "+k {
			t.Errorf("Get(%q) is %q, %v", k, v, ok)
		}
	}
	for _, k := range []string{"", "c", "aaa", "A", many('a', 32), many('a', 33), many('a', 5000)} {
		if v, ok := s.Get([]byte(k)); ok || len(v) > 0 {
			t.Errorf("Get(%q) is %q, %v", k, v, ok)
		}
	}
	if v, ok := s.Get(nil); ok || len(v) > 0 {
		t.Error("Get of nothing is", v, ok)
	}
}
