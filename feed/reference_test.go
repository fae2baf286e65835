package feed

import (
	"math"
	"math/rand"
	"testing"

	"chancery/api"
)

// slow is a feed by the chapter's words: every reader that ever came, its box a list.
type slow struct{ readers []slowReader }

type slowReader struct {
	places, lost int
	box          []int
	left         bool
}

func (s *slow) join(places int) int {
	if places < 1 || places > api.MaxList {
		return 0
	}
	s.readers = append(s.readers, slowReader{places: places})
	return len(s.readers)
}

// find is a reader that hasn't left, or nil.
func (s *slow) find(reader int) *slowReader {
	if reader < 1 || reader > len(s.readers) || s.readers[reader-1].left {
		return nil
	}
	return &s.readers[reader-1]
}

func (s *slow) leave(reader int) bool {
	r := s.find(reader)
	if r == nil {
		return false
	}
	r.left = true
	return true
}

func (s *slow) tell(v int) int {
	told := 0
	for i := range s.readers {
		r := s.find(i + 1)
		if r == nil {
			continue
		}
		if len(r.box) == r.places {
			r.box = r.box[1:]
			r.lost++
		}
		r.box = append(r.box, v)
		told++
	}
	return told
}

func (s *slow) take(reader int) (int, bool) {
	r := s.find(reader)
	if r == nil || len(r.box) == 0 {
		return 0, false
	}
	v := r.box[0]
	r.box = r.box[1:]
	return v, true
}

func (s *slow) counts(reader int) (waits, lost int) {
	if r := s.find(reader); r != nil {
		return len(r.box), r.lost
	}
	return 0, 0
}

// both are a feed and the slow one, to which the same happens.
type both struct {
	f *Feed[int]
	s *slow
}

func newBoth() both { return both{New[int](), &slow{}} }

func (b both) join(t *testing.T, places int) {
	t.Helper()
	if got, want := b.f.Join(places), b.s.join(places); got != want {
		t.Fatalf("Join(%d) is %d, want %d", places, got, want)
	}
}

func (b both) leave(t *testing.T, reader int) {
	t.Helper()
	if got, want := b.f.Leave(reader), b.s.leave(reader); got != want {
		t.Fatalf("Leave(%d) is %v", reader, got)
	}
}

func (b both) tell(t *testing.T, v int) {
	t.Helper()
	if got, want := b.f.Tell(v), b.s.tell(v); got != want {
		t.Fatalf("Tell(%d) is %d, want %d", v, got, want)
	}
}

func (b both) take(t *testing.T, reader int) {
	t.Helper()
	got, ok := b.f.Take(reader)
	if want, there := b.s.take(reader); got != want || ok != there {
		t.Fatalf("Take(%d) is %d, %v, want %d, %v", reader, got, ok, want, there)
	}
}

// hold asks what waits and what is lost, of all readers there ever were and of such as never came.
func (b both) hold(t *testing.T) {
	t.Helper()
	for reader := -1; reader < len(b.s.readers)+3; reader++ {
		waits, lost := b.s.counts(reader)
		if b.f.Waits(reader) != waits || b.f.Lost(reader) != lost {
			t.Fatalf("of %d wait %d, %d are lost, want %d, %d", reader, b.f.Waits(reader), b.f.Lost(reader), waits, lost)
		}
	}
}

// someReader is mostly one that came, sometimes none.
func (b both) someReader(from *rand.Rand) int {
	if from.Intn(20) == 0 {
		return []int{0, -1, len(b.s.readers) + 1, len(b.s.readers) + 2, math.MinInt, math.MaxInt}[from.Intn(6)]
	}
	return from.Intn(len(b.s.readers)+1) + 1
}

func somePlaces(from *rand.Rand) int {
	switch from.Intn(10) {
	case 0:
		return []int{0, -1, api.MaxList + 1, math.MinInt, math.MaxInt}[from.Intn(5)]
	case 1:
		return api.MaxList - from.Intn(3)
	}
	return from.Intn(6) + 1
}

// P17.1 to P17.3: drawn lives are answered as the slow one does.
func TestDrawnLives(t *testing.T) {
	for seed := range int64(60) {
		from := rand.New(rand.NewSource(seed))
		b := newBoth()
		for step := range 500 {
			switch from.Intn(10) {
			case 0:
				b.join(t, somePlaces(from))
			case 1:
				if from.Intn(3) == 0 {
					b.leave(t, b.someReader(from))
				}
			case 2, 3, 4, 5, 6:
				b.tell(t, step+1)
			default:
				b.take(t, b.someReader(from))
			}
			b.hold(t)
		}
		for reader := range len(b.s.readers) + 2 { // to the end of each box, and behind it
			for range b.f.Waits(reader) + 2 {
				b.take(t, reader)
			}
		}
		b.hold(t)
	}
}
