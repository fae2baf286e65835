package feed

import (
	"errors"
	"runtime"
	"slices"
	"testing"
	"weak"
)

// The rules: a feed tells things as they are: pointers and lists are those that were told, to each reader.
func TestThingsAsTheyAre(t *testing.T) {
	lists := New[[]byte]()
	joined(t, lists, 2, 1)
	joined(t, lists, 1, 2)
	list := []byte("a list with spare room")[:6]
	told(t, lists, 2, list)
	list[0] = 'b'
	for reader := 1; reader < 3; reader++ {
		got, ok := lists.Take(reader)
		if !ok || string(got) != "b list" || &got[0] != &list[0] || cap(got) != cap(list) {
			t.Errorf("Take(%d) is %q", reader, got)
		}
	}
	pointers := New[*[3]int]()
	joined(t, pointers, 3, 1)
	one, two := &[3]int{1}, &[3]int{1}
	told(t, pointers, 1, one, nil, two)
	takes(t, pointers, 1, one, nil, two)
	takesNone(t, pointers, 1)
}

// P17.2: what is no pointer is told as it was then, and each reader has its own.
func TestThingsThatWere(t *testing.T) {
	type thing struct {
		name    string
		numbers [3]int
	}
	f := New[thing]()
	joined(t, f, 4, 1)
	joined(t, f, 4, 2)
	v := thing{"a", [3]int{1, 2, 3}}
	told(t, f, 2, v)
	v.name, v.numbers[0] = "b", 9
	told(t, f, 2, v)
	v.numbers[1] = 9
	got, _ := f.Take(1)
	got.numbers[2] = 77
	takes(t, f, 2, thing{"a", [3]int{1, 2, 3}}, thing{"b", [3]int{9, 2, 3}})
	takes(t, f, 1, thing{"b", [3]int{9, 2, 3}})
}

// P17.2: a nil that is told is a thing.
func TestNothingIsAThing(t *testing.T) {
	f := New[error]()
	joined(t, f, 3, 1)
	e := errors.New("e")
	told(t, f, 1, nil, e, nil)
	takes(t, f, 1, nil, e, nil)
	takesNone(t, f, 1)
	lists := New[[]int]()
	joined(t, lists, 1, 1)
	told(t, lists, 1, nil)
	if got, ok := lists.Take(1); got != nil || !ok {
		t.Error(got, ok)
	}
}

// P17.2: things of all sizes.
func TestSizes(t *testing.T) {
	sized(t, struct{}{})
	sized(t, [0]int{})
	sized(t, byte(7))
	sized(t, [1<<16 - 1]byte{7, 1<<16 - 2: 8})
	sized(t, [1 << 16]byte{7, 1<<16 - 1: 8})
	sized(t, [1 << 18]byte{7, 1<<18 - 1: 8})
}

func sized[T comparable](t *testing.T, v T) {
	t.Helper()
	var none T
	f := New[T]()
	joined(t, f, 2, 1)
	told(t, f, 1, v, none, v)
	has(t, f, 1, 2, 1)
	takes(t, f, 1, none, v)
	takesNone(t, f, 1)
}

// P17.2: things that can't be held against each other: functions, channels of lists, feeds.
func TestKinds(t *testing.T) {
	functions := New[func() int]()
	joined(t, functions, 2, 1)
	for n := range 3 {
		functions.Tell(func() int { return n })
	}
	for want := 1; want < 3; want++ {
		if got, ok := functions.Take(1); !ok || got() != want {
			t.Error(want)
		}
	}
	if got, ok := functions.Take(1); got != nil || ok {
		t.Error("a function of none")
	}
	feeds := New[*Feed[map[string]int]]()
	joined(t, feeds, 1, 1)
	inner := New[map[string]int]()
	told(t, feeds, 1, inner)
	joined(t, inner, 1, 1)
	told(t, inner, 1, map[string]int{"a": 1})
	takes(t, feeds, 1, inner)
	if got, ok := inner.Take(1); !ok || got["a"] != 1 {
		t.Error(got, ok)
	}
}

// P17.2: no call waits: one goroutine makes all of them, whether boxes are full, empty or gone.
func TestNothingWaits(t *testing.T) {
	done := make(chan []int)
	go func() {
		f := New[int]()
		f.Tell(1)
		f.Join(1)
		f.Join(2)
		f.Take(1)
		for n := range 5 {
			f.Tell(n)
		}
		var got []int
		for range 3 {
			for reader := range 4 {
				v, _ := f.Take(reader)
				got = append(got, v, f.Waits(reader), f.Lost(reader))
			}
		}
		f.Tell(6)
		f.Leave(1)
		f.Tell(7)
		f.Take(1)
		f.Leave(2)
		f.Tell(8)
		done <- got
	}()
	want := []int{
		0, 0, 0, 4, 0, 4, 3, 1, 3, 0, 0, 0,
		0, 0, 0, 0, 0, 4, 4, 0, 3, 0, 0, 0,
		0, 0, 0, 0, 0, 4, 0, 0, 3, 0, 0, 0,
	}
	if got := <-done; !slices.Equal(got, want) {
		t.Error(got)
	}
}

type heavy struct{ bytes [1000]byte }

// P17.1, P17.2: what was taken, what was lost, and a box whose reader left aren't kept.
func TestNothingIsKept(t *testing.T) {
	f := New[*heavy]()
	joined(t, f, 2, 1)
	joined(t, f, 2, 2)
	lost, taken, waits := tellHeavy(t, f), tellHeavy(t, f), tellHeavy(t, f)
	takeHeavy(t, f, 1)
	takeHeavy(t, f, 2)
	isFreed(t, "what was lost", lost)
	isFreed(t, "what was taken", taken)
	if !f.Leave(1) {
		t.Fatal("Leave")
	}
	runtime.GC()
	if waits.Value() == nil {
		t.Fatal("what waits is gone")
	}
	if !f.Leave(2) {
		t.Fatal("Leave")
	}
	isFreed(t, "what waited", waits)
	runtime.KeepAlive(f)
}

//go:noinline
func tellHeavy(t *testing.T, f *Feed[*heavy]) weak.Pointer[heavy] {
	t.Helper()
	v := &heavy{}
	told(t, f, 2, v)
	return weak.Make(v)
}

//go:noinline
func takeHeavy(t *testing.T, f *Feed[*heavy], reader int) {
	t.Helper()
	if v, ok := f.Take(reader); !ok || v == nil {
		t.Fatal("Take", reader)
	}
}

func isFreed(t *testing.T, what string, v weak.Pointer[heavy]) {
	t.Helper()
	for range 10 {
		runtime.GC()
		if v.Value() == nil {
			return
		}
	}
	t.Fatal(what, "is kept")
}
