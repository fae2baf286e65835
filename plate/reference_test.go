package plate

import (
	"testing"

	"chancery/api"
)

// full is a sector's bytes.
type full [64]byte

func ofAll(b byte) full {
	var f full
	for i := range f {
		f[i] = b
	}
	return f
}

func made(b byte) []byte {
	f := ofAll(b)
	return f[:]
}

// slowWrite is one of a slow plate's.
type slowWrite struct {
	at   int
	what full
}

// slow is a plate by the chapter's words: it has all that was ever written, and reads by going through it.
type slow struct {
	sectors     int
	safe, loose []slowWrite
	armed       bool
	more        int
	down        bool
}

func (s *slow) clone() *slow {
	other := *s
	other.safe = append([]slowWrite(nil), s.safe...)
	other.loose = append([]slowWrite(nil), s.loose...)
	return &other
}

// isDone tells whether the next write or sync is done, and counts it.
func (s *slow) isDone() bool {
	if !s.armed {
		return true
	}
	s.more--
	if s.more < 0 {
		s.down = true
		return false
	}
	return true
}

func (s *slow) write(at int, b []byte) api.Errno {
	if s.down {
		return api.ErrCrash
	}
	if at < 0 || at >= s.sectors || len(b) != 64 {
		return api.ErrSector
	}
	if !s.isDone() {
		return api.ErrCrash
	}
	s.loose = append(s.loose, slowWrite{at, full(b)})
	return api.OK
}

func (s *slow) read(at int) (full, api.Errno) {
	if s.down {
		return full{}, api.ErrCrash
	}
	if at < 0 || at >= s.sectors {
		return full{}, api.ErrSector
	}
	var what full
	for _, list := range [][]slowWrite{s.safe, s.loose} {
		for _, w := range list {
			if w.at == at {
				what = w.what
			}
		}
	}
	return what, api.OK
}

func (s *slow) sync() api.Errno {
	if s.down || !s.isDone() {
		return api.ErrCrash
	}
	s.safe, s.loose = append(s.safe, s.loose...), nil
	return api.OK
}

func (s *slow) arm(n int) { s.armed, s.more = n >= 0, n }

func (s *slow) revive(keep []bool) {
	for i, w := range s.loose {
		if len(keep) > i && keep[i] {
			s.safe = append(s.safe, w)
		}
	}
	s.loose, s.armed, s.down = nil, false, false
}

// hold asks a plate and a slow one for all that they tell, without changing them.
func hold(t *testing.T, p *Plate, s *slow, when any) {
	t.Helper()
	if p.Sectors() != s.sectors || p.Down() != s.down || p.Loose() != len(s.loose) {
		t.Fatalf("%v: Sectors %d, Down %v, Loose %d, want %d, %v, %d", when, p.Sectors(), p.Down(), p.Loose(), s.sectors, s.down, len(s.loose))
	}
	for at := -1; at <= s.sectors; at++ {
		got, e := p.Read(at)
		want, wantE := s.read(at)
		if e != wantE || (e == api.OK && (len(got) != 64 || full(got) != want)) || (e != api.OK && len(got) != 0) {
			t.Fatalf("%v: Read(%d) is %x, %d, want %x, %d", when, at, got, e, want, wantE)
		}
	}
}

// both is a plate and a slow one to which the same happens.
type both struct {
	p *Plate
	s *slow
}

func newBoth(sectors int) both { return both{New(sectors), &slow{sectors: sectors}} }

func (b both) clone() both { return both{b.p.Clone(), b.s.clone()} }

func (b both) write(t *testing.T, at int, what []byte) {
	t.Helper()
	if got, want := b.p.Write(at, what), b.s.write(at, what); got != want {
		t.Fatalf("Write(%d, %d bytes) is %d, want %d", at, len(what), got, want)
	}
}

func (b both) sync(t *testing.T) {
	t.Helper()
	if got, want := b.p.Sync(), b.s.sync(); got != want {
		t.Fatalf("Sync is %d, want %d", got, want)
	}
}

func (b both) arm(n int) {
	b.p.Arm(n)
	b.s.arm(n)
}

func (b both) revive(keep ...bool) {
	b.p.Revive(keep)
	b.s.revive(keep)
}
