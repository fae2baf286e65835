package wal

import (
	"bytes"
	"math"
	"slices"
	"testing"

	"chancery/api"
	"chancery/plate"
)

// P14.2: the chapter's example.
func TestExample(t *testing.T) {
	p := newPlate(t, 16)
	l := open(t, p, 6, 10, 1)
	add(t, l, full(1, 100))
	if l.Room() != 44 || !same(allOf(t, p, 6, 9), slowSectors(1, 1, 1, full(1, 100))) {
		t.Error("not 3 sectors", l.Room())
	}
	add(t, l, full(2, 44))
	expect(t, "Append of nothing", l.Append(nil), api.ErrFull)
	if l.Room() != -1 {
		t.Error("Room is", l.Room())
	}
	holds(t, l, full(1, 100), full(2, 44))
	holds(t, open(t, p, 6, 10, 1), full(1, 100), full(2, 44))
}

// P14.1: which sectors and generations are refused, and which error comes first.
func TestOpenRefuses(t *testing.T) {
	p := newPlate(t, 8)
	down := newPlate(t, 8)
	down.Arm(0)
	expect(t, "Sync", down.Sync(), api.ErrCrash)
	for _, x := range []struct {
		from, to, gen int
		want          api.Errno
	}{
		{-1, 8, 1, api.ErrSector}, {math.MinInt, 8, 1, api.ErrSector}, {-1, -1, 1, api.ErrSector}, {-2, -1, 1, api.ErrSector},
		{0, 0, 1, api.ErrSector}, {3, 3, 1, api.ErrSector}, {8, 8, 1, api.ErrSector}, {4, 3, 1, api.ErrSector}, {9, 8, 1, api.ErrSector},
		{0, -1, 1, api.ErrSector}, {math.MaxInt, math.MinInt, 1, api.ErrSector}, {0, 9, 1, api.ErrSector}, {7, 9, 1, api.ErrSector},
		{8, 9, 1, api.ErrSector}, {0, math.MaxInt, 1, api.ErrSector}, {0, 1<<32 + 8, 1, api.ErrSector}, {1 << 32, 1<<32 + 8, 1, api.ErrSector},
		{0, 9, 0, api.ErrSector}, {-1, 8, 1 << 31, api.ErrSector}, {5, 5, -1, api.ErrSector},
		{0, 8, 0, api.ErrForm}, {0, 8, -1, api.ErrForm}, {0, 8, math.MinInt, api.ErrForm}, {0, 8, 1 << 31, api.ErrForm},
		{0, 8, 1<<32 + 1, api.ErrForm}, {0, 8, math.MaxInt, api.ErrForm}, {7, 8, 0, api.ErrForm},
		{0, 8, 1, api.ErrCrash}, {7, 8, 1<<31 - 1, api.ErrCrash},
	} {
		if l, e := Open(down, x.from, x.to, x.gen); e != x.want || l != nil {
			t.Errorf("Open(%d, %d, %d) on one that is down is %v, %d, want %d", x.from, x.to, x.gen, l, e, x.want)
		}
		if x.want == api.ErrCrash {
			open(t, p, x.from, x.to, x.gen)
		} else if l, e := Open(p, x.from, x.to, x.gen); e != x.want || l != nil {
			t.Errorf("Open(%d, %d, %d) is %v, %d, want %d", x.from, x.to, x.gen, l, e, x.want)
		}
	}
}

// P14.1: a log that is new has nothing, in any place.
func TestOpenNew(t *testing.T) {
	for _, sectors := range []int{8, 1365, 1366, 1367, 16384} {
		p := newPlate(t, sectors)
		for _, x := range [][2]int{{0, sectors}, {0, 1}, {sectors - 1, sectors}, {3, 7}, {1, sectors - 1}} {
			for _, gen := range []int{1, 2, 256, 1<<31 - 1} {
				l := holdsByWords(t, p, x[0], x[1], gen)
				if l.Opening() != 1 || len(l.Records()) != 0 {
					t.Error("something is there", x, gen)
				}
			}
		}
	}
}

// P14.1: opening reads alone: nothing is written, nor synced.
func TestOpenWritesNothing(t *testing.T) {
	p := newPlate(t, 12)
	add(t, open(t, p, 2, 9, 3), full(7, 60))
	expect(t, "Write", p.Write(4, slowSectors(3, 5, 2, full(8, 60))[1]), api.OK)
	before := allOf(t, p, 0, 12)
	p.Arm(0)
	for _, gen := range []int{1, 3, 4} {
		l := open(t, p, 2, 9, gen)
		l.Records()
		l.Room()
		l.Opening()
	}
	if p.Down() || p.Loose() != 1 || !same(allOf(t, p, 0, 12), before) {
		t.Error("something was written")
	}
}

// P14.2: the sectors in bytes, as numbers of more than one byte show them.
func TestSectorBytes(t *testing.T) {
	p := newPlate(t, 1400)
	lay(t, p, 1390, append(slowHead(0x12345678, 0x01020303, 9, 0, 0), make([]byte, 48)...))
	l := open(t, p, 0, 1400, 0x12345678)
	for range 258 {
		add(t, l, nil)
	}
	record := full(0xee, 48*259+5)
	add(t, l, record)
	s := allOf(t, p, 257, 258+260)
	for i, want := range [][]byte{
		{0x12, 0x34, 0x56, 0x78, 1, 2, 3, 4, 0, 0, 1, 2, 0, 0, 0, 0, 0, 0, 0, 0, 0, 0},
		{0x12, 0x34, 0x56, 0x78, 1, 2, 3, 4, 0, 0, 1, 3, 0, 0, 1, 3, 0, 0, 0x30, 0x95, 0xee},
	} {
		if !bytes.HasPrefix(s[i], want) {
			t.Errorf("%x, want %x", s[i], want)
		}
	}
	last := append([]byte{0x12, 0x34, 0x56, 0x78, 1, 2, 3, 4, 0, 0, 1, 3, 1, 3, 1, 3}, full(0xee, 9)...)
	if !bytes.Equal(s[260], append(last, make([]byte, 39)...)) {
		t.Errorf("the last part is %x", s[260])
	}
	if got := holdsByWords(t, p, 0, 1400, 0x12345678).Records(); len(got) != 259 || !bytes.Equal(got[258], record) {
		t.Error("not there again")
	}
}

// P14.2: records of all lengths about the edges of parts, each in as many sectors as it needs.
func TestLengths(t *testing.T) {
	for _, x := range []struct{ length, sectors int }{
		{0, 1}, {1, 1}, {43, 1}, {44, 1}, {45, 2}, {91, 2}, {92, 2}, {93, 3}, {100, 3}, {139, 3}, {140, 3}, {141, 4},
		{48*255 - 4, 255}, {48*256 - 4, 256}, {48*256 - 3, 257}, {1<<16 - 21, 1365}, {1<<16 - 20, 1365}, {1<<16 - 19, 1366}, {1 << 16, 1366},
	} {
		p := newPlate(t, 1400)
		l := open(t, p, 5, 5+x.sectors, 4)
		record := full(0xff, x.length)
		add(t, l, record)
		if l.Room() != -1 || !same(allOf(t, p, 5, 5+x.sectors), slowSectors(4, 1, 1, record)) {
			t.Errorf("%d bytes are not in %d sectors", x.length, x.sectors)
		}
		expect(t, "Append to a full log", l.Append(nil), api.ErrFull)
		holdsByWords(t, p, 5, 5+x.sectors, 4)
		if x.sectors > 1 {
			short := open(t, newPlate(t, 1400), 5, 4+x.sectors, 4)
			expect(t, "Append to a log with a sector too few", short.Append(record), api.ErrFull)
		}
	}
}

// P14.2: records end at MaxBytes, wherever they stand; a log doesn't.
func TestBig(t *testing.T) {
	p := newPlate(t, 16384)
	l := open(t, p, 0, 16384, 1)
	big := full(9, 1<<16)
	for i := range 12 { // of 1366 sectors each, but for the last one, for which 1358 are left
		want := min(1<<16, 48*(16384-1366*i)-4)
		if l.Room() != want {
			t.Fatalf("Room is %d, want %d", l.Room(), want)
		}
		expect(t, "Append of too much", l.Append(full(9, 1<<16+1)), api.ErrBig)
		if i < 11 {
			add(t, l, big)
		}
	}
	expect(t, "Append of what doesn't fit", l.Append(big), api.ErrFull)
	add(t, l, full(3, l.Room()))
	if l.Room() != -1 || len(l.Records()) != 12 {
		t.Error("not full")
	}
	expect(t, "Append of too much to a full log", l.Append(full(9, 1<<16+1)), api.ErrBig)
	expect(t, "Append of nothing to a full log", l.Append(nil), api.ErrFull)
	holds(t, open(t, p, 0, 16384, 1), l.Records()...)
}

// P14.2: what is refused writes nothing, and the log goes on.
func TestRefused(t *testing.T) {
	p := newPlate(t, 8)
	l := open(t, p, 1, 4, 1)
	add(t, l, full(1, 10))
	before := allOf(t, p, 0, 8)
	p.Arm(0)
	for range 3 {
		expect(t, "too big", l.Append(full(1, 1<<16+1)), api.ErrBig)
		expect(t, "much too big", l.Append(full(1, 1<<20)), api.ErrBig)
		expect(t, "too long", l.Append(full(1, 93)), api.ErrFull)
		expect(t, "as long as may be, too long", l.Append(full(1, 1<<16)), api.ErrFull)
	}
	if p.Down() || !same(allOf(t, p, 0, 8), before) || l.Room() != 92 || l.Opening() != 1 {
		t.Error("something was done")
	}
	p.Arm(-1)
	holds(t, l, full(1, 10))
	add(t, l, full(2, 92))
	holds(t, l, full(1, 10), full(2, 92))
	if !same(allOf(t, p, 2, 4), slowSectors(1, 1, 2, full(2, 92))) {
		t.Error("another number than 2")
	}
}

// P14.2: an Append writes each sector once, in order, and syncs; at each of these the plate may go down.
func TestAppendInOrder(t *testing.T) {
	record := full(5, 140)
	want := slowSectors(2, 1, 1, record)
	for n := range 4 {
		p := newPlate(t, 8)
		l := open(t, p, 2, 7, 2)
		p.Arm(n)
		expect(t, "Append", l.Append(record), api.ErrCrash)
		if !p.Down() || p.Loose() != n {
			t.Fatalf("armed with %d: %d writes", n, p.Loose())
		}
		for i := range n { // each write alone: which one it was
			q := p.Clone()
			q.Revive(append(make([]bool, i), true))
			for at, s := range allOf(t, q, 2, 5) {
				if at == i && !bytes.Equal(s, want[i]) || at != i && !bytes.Equal(s, make([]byte, 64)) {
					t.Fatalf("the write %d at %d: %x", i, at, s)
				}
			}
		}
	}
	p := newPlate(t, 8)
	l := open(t, p, 2, 7, 2)
	p.Arm(4)
	add(t, l, record)
	if p.Loose() != 0 || p.Down() {
		t.Error("not synced")
	}
	expect(t, "the next write", p.Write(0, want[0]), api.ErrCrash)
}

// P14.2: no sector beside the log's is written, whatever stands there.
func TestOtherSectorsStay(t *testing.T) {
	p := newPlate(t, 12)
	ones := full(1, 64)
	for at := range 12 {
		lay(t, p, at, ones)
	}
	l := open(t, p, 3, 8, 1)
	add(t, l, full(4, 44))
	add(t, l, full(5, 188))
	expect(t, "full", l.Append(nil), api.ErrFull)
	for at, s := range allOf(t, p, 0, 12) {
		if (at < 3 || at >= 8) != bytes.Equal(s, ones) {
			t.Errorf("sector %d is %x", at, s)
		}
	}
	holdsByWords(t, p, 3, 8, 1)
}

// crashed is a log whose last Append was answered with the plate's error, behind the record "one".
func crashed(t *testing.T, after int) (*plate.Plate, *Log) {
	t.Helper()
	p := newPlate(t, 8)
	l := open(t, p, 0, 8, 1)
	add(t, l, []byte("one"))
	p.Arm(after)
	expect(t, "Append", l.Append(full(2, 80)), api.ErrCrash)
	return p, l
}

// P14.2: behind the plate's error a log is closed, to what is refused otherwise too, and when the plate is up again.
func TestClosed(t *testing.T) {
	for after := range 3 {
		p, l := crashed(t, after)
		check := func(when string) {
			t.Helper()
			for _, b := range [][]byte{nil, []byte("x"), full(1, 1<<16), full(1, 1<<16+1), full(1, 400)} {
				expect(t, when, l.Append(b), api.ErrClosed)
			}
			holds(t, l, []byte("one"))
			if l.Room() != 48*7-4 || l.Opening() != 1 {
				t.Errorf("%s: Room is %d, Opening %d", when, l.Room(), l.Opening())
			}
		}
		check("down")
		p.Revive([]bool{true, true})
		before := allOf(t, p, 0, 8)
		check("up")
		if p.Loose() != 0 || !same(allOf(t, p, 0, 8), before) {
			t.Error("a closed log wrote")
		}
		again := open(t, p, 0, 8, 1)
		check("opened beside it")
		add(t, again, []byte("x"))
	}
}

// P14.2: which error comes first on a plate that is down while the log isn't closed.
func TestDownNotClosed(t *testing.T) {
	p := newPlate(t, 8)
	l := open(t, p, 0, 2, 1)
	p.Arm(0)
	expect(t, "Sync", p.Sync(), api.ErrCrash)
	expect(t, "too big", l.Append(full(1, 1<<16+1)), api.ErrBig)
	expect(t, "too long", l.Append(full(1, 93)), api.ErrFull)
	other := p.Clone()
	expect(t, "down", l.Append(nil), api.ErrCrash)
	expect(t, "closed", l.Append(nil), api.ErrClosed)
	other.Revive(nil)
	holds(t, open(t, other, 0, 2, 1))
}

// P14.2: a log whose plate was down and came up with no Append between goes on.
func TestUpAgain(t *testing.T) {
	p := newPlate(t, 8)
	l := open(t, p, 0, 4, 1)
	add(t, l, full(1, 50))
	p.Arm(0)
	expect(t, "Sync", p.Sync(), api.ErrCrash)
	holds(t, l, full(1, 50))
	p.Revive(nil)
	add(t, l, full(2, 50))
	holds(t, l, full(1, 50), full(2, 50))
	holds(t, holdsByWords(t, p, 0, 4, 1), full(1, 50), full(2, 50))
}

// P14.1, P14.2: records of one log over several openings; each record tells in which one it was written.
func TestOpenings(t *testing.T) {
	p := newPlate(t, 64)
	var want [][]byte
	next := 3
	for opening := 1; opening <= 5; opening++ {
		l := holdsByWords(t, p, 3, 60, 8)
		if l.Opening() != opening {
			t.Fatalf("Opening is %d, want %d", l.Opening(), opening)
		}
		for i := range 2 {
			record := full(byte(opening), 30*opening*i)
			add(t, l, record)
			want = append(want, record)
			sectors := slowSectors(8, opening, len(want), record)
			if !same(allOf(t, p, next, next+len(sectors)), sectors) {
				t.Fatal("other sectors", opening, i)
			}
			next += len(sectors)
			holds(t, l, want...)
			if l.Opening() != opening {
				t.Fatal("Opening changed")
			}
		}
		if idle := open(t, p, 3, 60, 8); idle.Opening() != opening+1 {
			t.Fatal("an opening behind it is", idle.Opening())
		}
	}
	if other := open(t, p, 3, 60, 7); other.Opening() != 1 || len(other.Records()) != 0 {
		t.Error("another generation has records")
	}
}

// P14.1: logs of rising generations on the same sectors, each of which sees its own alone.
func TestGenerations(t *testing.T) {
	p := newPlate(t, 16)
	for gen := 1; gen <= 300; gen++ {
		l := holdsByWords(t, p, 0, 16, gen)
		if l.Opening() != 1 || len(l.Records()) != 0 || l.Room() != 16*48-4 {
			t.Fatal("a new generation has something", gen)
		}
		var want [][]byte
		for i := range gen % 5 {
			want = append(want, full(byte(gen), 50*i))
			add(t, l, want[i])
		}
		holds(t, holdsByWords(t, p, 0, 16, gen), want...)
	}
}

// P14.1: two logs side by side don't meddle.
func TestSideBySide(t *testing.T) {
	p := newPlate(t, 12)
	one, two := open(t, p, 0, 6, 1), open(t, p, 6, 12, 1)
	for i := range 3 {
		add(t, one, full(1, i))
		add(t, two, full(2, 60+i))
	}
	holds(t, open(t, p, 0, 6, 1), nil, full(1, 1), full(1, 2))
	holds(t, open(t, p, 6, 12, 1), full(2, 60), full(2, 61), full(2, 62))
	if l := open(t, p, 5, 12, 1); len(l.Records()) != 0 || l.Opening() != 2 {
		t.Error("a log that begins a sector early has records")
	}
	cut := open(t, p, 6, 11, 1) // the last record isn't whole
	holds(t, cut, full(2, 60), full(2, 61))
	if cut.Room() != 44 || !slices.Equal(cut.Records()[0], full(2, 60)) {
		t.Error("Room is", cut.Room())
	}
}
