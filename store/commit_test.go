package store

import (
	"maps"
	"math"
	"strconv"
	"testing"

	"chancery/api"
	"chancery/plate"
)

// refusedCommit does changes that must be refused so, and change nothing: neither what is told, nor the plate.
func refusedCommit(t *testing.T, what string, p *plate.Plate, s *Store, want api.Errno, list ...Change) {
	t.Helper()
	pairs, generation, before := allOf(t, s), s.Generation(), content(p)
	p.Arm(0)
	expect(t, what, s.Commit(list), want)
	if p.Down() {
		t.Fatalf("%s: something was to be written", what)
	}
	p.Arm(-1)
	holds(t, s, pairs)
	if s.Generation() != generation || content(p) != before {
		t.Fatalf("%s: something changed", what)
	}
}

// P15.2: the lengths of keys and values, at their edges and past them.
func TestForms(t *testing.T) {
	p := newPlate(t, 1000)
	s := open(t, p)
	long := []byte(many('v', api.MaxValue))
	for what, c := range map[string]Change{
		"no key":                   set("", "v"),
		"nothing":                  {},
		"key of 33":                set(many('k', api.MaxKey+1), "v"),
		"key of 300":               set(many('k', 300), "v"),
		"value past its length":    set("k", many('v', api.MaxValue+1)),
		"removal without a key":    gone(""),
		"removal of a key of 33":   gone(many('k', api.MaxKey+1)),
		"removal of 257":           gone(many('k', 257)),
		"value far past its limit": set("k", many('v', api.MaxBytes+1)),
	} {
		refusedCommit(t, what, p, s, api.ErrForm, c)
		refusedCommit(t, what+" behind good ones", p, s, api.ErrForm, set("a", "1"), gone("b"), c)
		refusedCommit(t, what+" ahead of good ones", p, s, api.ErrForm, c, set("a", "1"))
	}
	commit(t, s, set("k", ""), set(many('k', api.MaxKey), string(long)), Change{Key: []byte("l"), Value: nil})
	holds(t, s, map[string]string{"k": "", "l": "", many('k', api.MaxKey): string(long)})
	commit(t, s, Change{Key: []byte("l"), Value: append(long, 'v'), Gone: true}, gone(many('k', api.MaxKey)))
	holds(t, s, map[string]string{"k": ""})
	holds(t, open(t, p), map[string]string{"k": ""})
}

// P15.2: without changes nothing is written.
func TestNoChanges(t *testing.T) {
	p := newPlate(t, 8)
	s := open(t, p)
	refusedCommit(t, "nil", p, s, api.OK)
	expect(t, "an empty list", s.Commit([]Change{}), api.OK)
	commit(t, s, set("a", "1"), set("b", many('b', 30)))
	refusedCommit(t, "nil, of a log that is full", p, s, api.OK)
	p.Arm(0)
	expect(t, "Sync", p.Sync(), api.ErrCrash)
	expect(t, "nil, of a plate that is down", s.Commit(nil), api.OK)
	expect(t, "a change, of a plate that is down", s.Commit([]Change{set("a", "2")}), api.ErrCrash)
	expect(t, "nil, of a store that is closed", s.Commit(nil), api.ErrClosed)
}

// P15.2: changes are done one after the other; those that change nothing are written too.
func TestOneAfterTheOther(t *testing.T) {
	p := newPlate(t, 40)
	s := open(t, p)
	m := newSlow(40)
	for _, list := range [][]Change{
		{set("a", "1"), set("a", "2")},
		{gone("a"), set("a", "3"), gone("b")},
		{set("b", "1"), gone("b"), set("b", "2"), gone("a"), gone("a")},
		{set("b", "2")},
		{gone("z")},
		{set("c", ""), gone("c"), gone("b")},
	} {
		commit(t, s, list...)
		expect(t, "the slow one", m.commit(list...), api.OK)
		stands(t, p, s, m)
	}
	if len(s.Keys(nil)) != 0 {
		t.Error(s.Keys(nil))
	}
}

// P15.2: changes that just fit behind the last record are appended; of one byte more a generation is begun.
func TestFitsBehind(t *testing.T) {
	for _, sectors := range []int{12, 13} { // five sectors a half: four behind the first record
		for length, want := range map[int]int{4*48 - 4: 1, 4*48 - 3: 2} {
			p := newPlate(t, sectors)
			s, m := open(t, p), newSlow(sectors)
			list := []Change{set("k", many('v', length-7))}
			commit(t, s, list...)
			m.commit(list...)
			stands(t, p, s, m)
			if s.Generation() != want {
				t.Errorf("%d bytes: generation %d, want %d", length, s.Generation(), want)
			}
			commit(t, s, gone("k"))
			m.commit(gone("k"))
			stands(t, p, s, m)
			if s.Generation() != want+1 { // no sector was left
				t.Errorf("%d bytes, and more: generation %d", length, s.Generation())
			}
		}
	}
}

// P15.2: pairs that just fill a half, and those of one byte more.
func TestFitsInHalf(t *testing.T) {
	for _, sectors := range []int{8, 9, 10, 11, 30, 100} {
		room := (sectors-2)/2*48 - 4
		p := newPlate(t, sectors)
		s, m := open(t, p), newSlow(sectors)
		refusedCommit(t, "a byte more than a half has", p, s, api.ErrFull, set("k", many('v', room-6)))
		for _, list := range [][]Change{
			{set("k", many('v', room-7))},
			{gone("k"), set("l", many('w', room-7))},
			{gone("l"), set("a", ""), set("b", many('b', room-14))},
		} {
			commit(t, s, list...)
			expect(t, "the slow one", m.commit(list...), api.OK)
			stands(t, p, s, m)
		}
		if s.Generation() != 4 {
			t.Error("generation", s.Generation())
		}
		refusedCommit(t, "one more byte", p, s, api.ErrFull, set("a", "1"))
		refusedCommit(t, "one more pair", p, s, api.ErrFull, set("c", ""))
		commit(t, s, gone("b"))
		holds(t, s, map[string]string{"a": ""})
		holds(t, open(t, p), map[string]string{"a": ""})
	}
}

// wide are changes that set pairs of so many bytes in all, 8192 + 7 of most.
func wide(bytes int) []Change {
	var list []Change
	for i := 0; bytes > 0; i++ {
		length := min(bytes-7, api.MaxValue)
		if rest := bytes - 7 - length; rest > 0 && rest < 7 {
			length -= 7
		}
		list = append(list, set(string(rune('a'+i)), many(byte(i), length)))
		bytes -= 7 + length
	}
	return list
}

// P15.2: a first record has at most MaxBytes bytes, however great the half.
func TestFitsInARecord(t *testing.T) {
	p := newPlate(t, api.MaxSectors)
	s, m := open(t, p), newSlow(api.MaxSectors)
	step := func(want api.Errno, list ...Change) {
		t.Helper()
		expect(t, "Commit", s.Commit(list), want)
		expect(t, "the slow one", m.commit(list...), want)
		stands(t, p, s, m)
	}
	for _, bytes := range []int{api.MaxBytes, api.MaxBytes + 1} {
		if got := len(slowBytes(wide(bytes)...)); got != bytes {
			t.Fatal(got, bytes)
		}
	}
	refusedCommit(t, "a byte more", p, s, api.ErrFull, wide(api.MaxBytes+1)...)
	for range 5 { // a half takes five such records behind the first
		step(api.OK, wide(api.MaxBytes)...)
	}
	if s.Generation() != 1 {
		t.Error("generation", s.Generation())
	}
	step(api.OK, wide(api.MaxBytes)...)
	if s.Generation() != 2 {
		t.Error("generation", s.Generation())
	}
	step(api.OK, set("zz", "the pairs have more than MaxBytes now"))
	for range 4 {
		step(api.OK, wide(api.MaxBytes)...)
	}
	if s.Generation() != 2 {
		t.Error("generation", s.Generation())
	}
	refusedCommit(t, "pairs of more than MaxBytes", p, s, api.ErrFull, wide(api.MaxBytes)...)
	step(api.OK, append(wide(api.MaxBytes), gone("zz"))...)
	if s.Generation() != 3 {
		t.Error("generation", s.Generation())
	}
}

// P15.2: changes of more bytes than a record has, which lead to few pairs, begin a generation.
func TestMoreChangesThanARecord(t *testing.T) {
	p := newPlate(t, api.MaxSectors)
	s, m := open(t, p), newSlow(api.MaxSectors)
	var list []Change
	for i := range 30 {
		list = append(list, set("k", many(byte(i), api.MaxValue)), set(strconv.Itoa(i), "x"), gone(strconv.Itoa(i)))
	}
	commit(t, s, list...)
	expect(t, "the slow one", m.commit(list...), api.OK)
	stands(t, p, s, m)
	if s.Generation() != 2 {
		t.Error("generation", s.Generation())
	}
	holds(t, open(t, p), map[string]string{"k": many(29, api.MaxValue)})
}

// P15.2: what is refused for lack of room doesn't close the store.
func TestFullGoesOn(t *testing.T) {
	p := newPlate(t, 8)
	s := open(t, p)
	commit(t, s, set("a", many('a', 60)))
	refusedCommit(t, "too much", p, s, api.ErrFull, set("b", many('b', 100)))
	refusedCommit(t, "too much, and once more", p, s, api.ErrFull, set("b", many('b', 100)))
	refusedCommit(t, "nothing", p, s, api.OK)
	commit(t, s, set("b", "b"))
	holds(t, s, map[string]string{"a": many('a', 60), "b": "b"})
}

// P15.2: ErrForm comes ahead of ErrFull, ErrFull ahead of the plate's error, ErrClosed ahead of all.
func TestOrderOfErrors(t *testing.T) {
	p := newPlate(t, 8)
	s := open(t, p)
	full := set("a", many('a', 200))
	expect(t, "both", s.Commit([]Change{full, set("", "")}), api.ErrForm)
	p.Arm(0)
	expect(t, "Sync", p.Sync(), api.ErrCrash)
	expect(t, "full, down", s.Commit([]Change{full}), api.ErrFull)
	expect(t, "form, down", s.Commit([]Change{set("", "")}), api.ErrForm)
	expect(t, "down", s.Commit([]Change{set("a", "1")}), api.ErrCrash)
	expect(t, "form, closed", s.Commit([]Change{set("", "")}), api.ErrClosed)
	expect(t, "full, closed", s.Commit([]Change{full}), api.ErrClosed)
}

// P15.2: behind the plate's error, at each write and sync, the store is closed, and tells what it told.
func TestClosed(t *testing.T) {
	for _, c := range []struct {
		what  string
		first int // how many Commits go ahead
		steps int // writes and syncs of the one that is asked
	}{{"appended", 1, 2}, {"begun", 2, 6}} {
		for after := range c.steps + 1 {
			p := newPlate(t, 8)
			s := open(t, p)
			for i := range c.first {
				commit(t, s, set("a", strconv.Itoa(i)))
			}
			before, generation := allOf(t, s), s.Generation()
			p.Arm(after)
			e := s.Commit([]Change{set("b", "2"), gone("a")})
			if after == c.steps {
				expect(t, c.what, e, api.OK)
				holds(t, s, map[string]string{"b": "2"})
				continue
			}
			expect(t, c.what, e, api.ErrCrash)
			for range 2 {
				holds(t, s, before)
				if s.Generation() != generation {
					t.Error(c.what, "the generation is", s.Generation())
				}
				expect(t, "closed", s.Commit([]Change{set("b", "2")}), api.ErrClosed)
				expect(t, "closed, nothing", s.Commit(nil), api.ErrClosed)
				p.Revive(nil)
			}
		}
	}
}

// P15.2: there is no generation behind 2^31 - 1.
func TestLastGeneration(t *testing.T) {
	p := laid(t, math.MaxInt32-1, slowBytes(set("a", "1")))
	s := open(t, p)
	for i := range 18 {
		commit(t, s, set("b", strconv.Itoa(i)))
	}
	if s.Generation() != math.MaxInt32-1 {
		t.Fatal(s.Generation())
	}
	commit(t, s, set("b", "18"))
	for i := 19; i < 37; i++ {
		s = open(t, p)
		if s.Generation() != math.MaxInt32 {
			t.Fatal(s.Generation())
		}
		commit(t, s, set("b", strconv.Itoa(i)))
	}
	refusedCommit(t, "2^31", p, s, api.ErrFull, set("b", "37"))
	refusedCommit(t, "2^31, of fewer pairs", p, s, api.ErrFull, gone("b"))
	refusedCommit(t, "nothing", p, s, api.OK)
	holds(t, open(t, p), map[string]string{"a": "1", "b": "36"})
}

// P15.1, P15.2: what is set is there, what is removed isn't, through generations; of each plate the bytes are the chapter's.
func TestBytes(t *testing.T) {
	for _, sectors := range []int{8, 9, 12, 40} {
		p := newPlate(t, sectors)
		s, m := open(t, p), newSlow(sectors)
		for i := range 200 {
			list := []Change{set("k"+strconv.Itoa(i%3), many('v', i%20)), gone("k" + strconv.Itoa(i%4))}
			if e := s.Commit(list); e != m.commit(list...) {
				t.Fatal(i, e)
			}
			stands(t, p, s, m)
			if i%7 == 0 {
				s = open(t, p)
				m.reopen()
			}
		}
		if s.Generation() < 10 {
			t.Error("generation", s.Generation())
		}
	}
}

// P15.2: a beginning that was refused by a crash leaves nothing that the next one takes.
func TestBegunTwice(t *testing.T) {
	for after := range 6 {
		for kept := range 8 {
			p := newPlate(t, 12)
			s := open(t, p)
			var done map[string]string
			for i := range 4 {
				commit(t, s, set("a", strconv.Itoa(i)))
			}
			done = allOf(t, s)
			p.Arm(after)
			long := []Change{set("a", many('l', 100)), set("b", many('m', 70))}
			expect(t, "Commit", s.Commit(long), api.ErrCrash)
			p.Revive(bits(kept, 3))
			s = open(t, p)
			if s.Generation() == 2 {
				done = slowAfter(done, long...)
			}
			holds(t, s, done)
			short := []Change{set("a", "s"), gone("b")}
			commit(t, s, short...)
			done = slowAfter(done, short...)
			holds(t, s, done)
			s = open(t, p)
			if !maps.Equal(allOf(t, s), done) || s.Generation() != 2 {
				t.Errorf("armed with %d, kept %03b: generation %d, %q", after, kept, s.Generation(), allOf(t, s))
			}
		}
	}
}
