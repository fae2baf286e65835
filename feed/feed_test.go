package feed

import (
	"math"
	"testing"

	"chancery/api"
)

// joined adds a reader, which must get that number.
func joined[T any](t *testing.T, f *Feed[T], places, want int) {
	t.Helper()
	if got := f.Join(places); got != want {
		t.Fatalf("Join(%d) is %d, want %d", places, got, want)
	}
}

// told tells things to so many readers.
func told[T any](t *testing.T, f *Feed[T], readers int, things ...T) {
	t.Helper()
	for _, v := range things {
		if got := f.Tell(v); got != readers {
			t.Fatalf("Tell(%v) is %d, want %d", v, got, readers)
		}
	}
}

// takes takes these things, in their order.
func takes[T comparable](t *testing.T, f *Feed[T], reader int, things ...T) {
	t.Helper()
	for _, want := range things {
		if got, ok := f.Take(reader); got != want || !ok {
			t.Fatalf("Take(%d) is %v, %v, want %v", reader, got, ok, want)
		}
	}
}

// takesNone takes, and there is nothing.
func takesNone[T comparable](t *testing.T, f *Feed[T], reader int) {
	t.Helper()
	var none T
	if got, ok := f.Take(reader); got != none || ok {
		t.Fatalf("Take(%d) is %v, %v", reader, got, ok)
	}
}

// has asks how many things wait, and how many are lost.
func has[T any](t *testing.T, f *Feed[T], reader, waits, lost int) {
	t.Helper()
	if f.Waits(reader) != waits || f.Lost(reader) != lost {
		t.Fatalf("of %d wait %d, %d are lost, want %d, %d", reader, f.Waits(reader), f.Lost(reader), waits, lost)
	}
}

// isNone asks all calls of a number that no reader has.
func isNone(t *testing.T, f *Feed[int], reader int) {
	t.Helper()
	takesNone(t, f, reader)
	has(t, f, reader, 0, 0)
	if f.Leave(reader) {
		t.Fatalf("Leave(%d) is true", reader)
	}
}

func upTo(n int) []int {
	var list []int
	for v := range n {
		list = append(list, v+1)
	}
	return list
}

// The chapter's example.
func TestExample(t *testing.T) {
	f := New[int]()
	joined(t, f, 2, 1)
	told(t, f, 1, 5, 6, 7)
	takes(t, f, 1, 6, 7)
	takesNone(t, f, 1)
	has(t, f, 1, 0, 1)
}

// P17.1: numbers rise from 1 on; what is refused takes none.
func TestJoin(t *testing.T) {
	f := New[int]()
	wrong := []int{0, -1, -2, -api.MaxList, api.MaxList + 1, api.MaxList + 2, 2*api.MaxList + 1, 1 << 16, 1 << 32, 1<<32 + 1, math.MaxInt, math.MinInt, math.MinInt + 1}
	number := 1
	for _, places := range []int{1, 2, 3, 100, api.MaxList - 1, api.MaxList} {
		for _, w := range wrong {
			joined(t, f, w, 0)
		}
		told(t, f, number-1, 1)
		isNone(t, f, number)
		joined(t, f, places, number)
		has(t, f, number, 0, 0)
		takesNone(t, f, number)
		number++
	}
}

// P17.1, P17.2: each number of places that there may be: as many things wait, and no more.
func TestPlaces(t *testing.T) {
	for places := 1; places <= api.MaxList; places++ {
		f := New[int]()
		joined(t, f, places, 1)
		all := upTo(places + 3)
		for _, v := range all {
			told(t, f, 1, v)
			has(t, f, 1, min(v, places), max(v-places, 0))
		}
		takes(t, f, 1, all[3:]...)
		takesNone(t, f, 1)
		has(t, f, 1, 0, 3)
	}
}

// P17.1: who left is no reader, once and for all; its number isn't given again.
func TestLeave(t *testing.T) {
	f := New[int]()
	for n := range 4 {
		joined(t, f, 2, n+1)
	}
	told(t, f, 4, 10, 11, 12)
	for left, reader := range []int{2, 4, 1, 3} {
		has(t, f, reader, 2, 1+left)
		if !f.Leave(reader) {
			t.Fatal("Leave", reader)
		}
		isNone(t, f, reader)
		told(t, f, 3-left, 20+left)
		isNone(t, f, reader)
	}
	told(t, f, 0, 30)
	joined(t, f, 2, 5)
	for reader := range 5 {
		isNone(t, f, reader)
	}
	has(t, f, 5, 0, 0)
	told(t, f, 1, 40)
	takes(t, f, 5, 40)
}

// P17.1: the one that came last leaves, and its number isn't given again either.
func TestLeaveLast(t *testing.T) {
	f := New[int]()
	for n := 1; n < 10; n++ {
		joined(t, f, 1, n)
		told(t, f, 1, n)
		if !f.Leave(n) || f.Leave(n) {
			t.Fatal("Leave", n)
		}
		joined(t, f, 0, 0)
	}
}

// P17.1 to P17.3: numbers that no reader has; asking for them changes nothing.
func TestNoReader(t *testing.T) {
	f := New[int]()
	numbers := []int{0, -1, -2, 3, 4, 257, 1 << 32, 1<<32 + 1, 1<<32 + 2, math.MaxInt, math.MinInt, math.MinInt + 1, math.MinInt + 2}
	for _, n := range append(numbers, 1, 2) {
		isNone(t, f, n)
	}
	joined(t, f, 3, 1)
	joined(t, f, 1, 2)
	told(t, f, 2, 7, 8)
	for _, n := range numbers {
		isNone(t, f, n)
		has(t, f, 1, 2, 0)
		has(t, f, 2, 1, 1)
	}
	takes(t, f, 1, 7, 8)
	takes(t, f, 2, 8)
	joined(t, f, 1, 3)
}

// P17.2: a thing is told to those that are there, and to nobody who comes later.
func TestTell(t *testing.T) {
	f := New[int]()
	told(t, f, 0, 1)
	joined(t, f, 9, 1)
	takesNone(t, f, 1)
	told(t, f, 1, 2)
	joined(t, f, 9, 2)
	told(t, f, 2, 3)
	joined(t, f, 9, 3)
	told(t, f, 3, 4)
	f.Leave(2)
	told(t, f, 2, 5)
	takes(t, f, 1, 2, 3, 4, 5)
	takes(t, f, 3, 4, 5)
	for reader := range 5 {
		takesNone(t, f, reader)
	}
}

// P17.2: things stand in the order of their telling, whatever is taken in between; a box is gone round many times.
func TestOrder(t *testing.T) {
	for places := 1; places < 8; places++ {
		f := New[int]()
		joined(t, f, places, 1)
		next, first := 1, 1
		for round := range 200 {
			for range round % (places + 1) {
				told(t, f, 1, next)
				next++
			}
			first = max(first, next-places)
			for range (round / 3) % (places + 1) {
				if first < next {
					takes(t, f, 1, first)
					first++
				}
			}
			if f.Waits(1) != next-first {
				t.Fatal(places, round, f.Waits(1), next-first)
			}
		}
	}
}

// P17.2: each box is its own: what one reader takes or loses the others have.
func TestBoxesApart(t *testing.T) {
	f := New[int]()
	for reader, places := range []int{1, 3, 5, api.MaxList} {
		joined(t, f, places, reader+1)
	}
	told(t, f, 4, 1, 2, 3, 4)
	has(t, f, 1, 1, 3)
	has(t, f, 2, 3, 1)
	has(t, f, 3, 4, 0)
	has(t, f, 4, 4, 0)
	takes(t, f, 3, 1, 2)
	told(t, f, 4, 5, 6)
	takes(t, f, 1, 6)
	takes(t, f, 2, 4, 5, 6)
	takes(t, f, 3, 3, 4, 5, 6)
	takes(t, f, 4, 1, 2, 3, 4, 5, 6)
	for reader, lost := range []int{5, 3, 0, 0} {
		takesNone(t, f, reader+1)
		has(t, f, reader+1, 0, lost)
	}
}

// P17.2: two feeds are two.
func TestFeedsApart(t *testing.T) {
	one, two := New[int](), New[int]()
	joined(t, one, 2, 1)
	joined(t, one, 2, 2)
	joined(t, two, 2, 1)
	told(t, one, 2, 1)
	takesNone(t, two, 1)
	isNone(t, two, 2)
	told(t, two, 1, 2)
	takes(t, one, 1, 1)
	takes(t, two, 1, 2)
	one.Leave(1)
	has(t, two, 1, 0, 0)
	told(t, two, 1, 3)
	isNone(t, one, 1)
}

// P17.2: zero values are things as others are.
func TestZeroValues(t *testing.T) {
	f := New[int]()
	joined(t, f, 3, 1)
	told(t, f, 1, 0, 1, 0)
	takes(t, f, 1, 0, 1, 0)
	takesNone(t, f, 1)
	texts := New[string]()
	joined(t, texts, 2, 1)
	told(t, texts, 1, "", "a", "")
	has(t, texts, 1, 2, 1)
	takes(t, texts, 1, "a", "")
	takesNone(t, texts, 1)
}

// P17.3: losses are counted on, through taking, for each telling that finds the box full.
func TestLost(t *testing.T) {
	f := New[int]()
	joined(t, f, 4, 1)
	for lost := range 1000 {
		has(t, f, 1, min(lost, 4), max(lost-4, 0))
		told(t, f, 1, lost)
	}
	takes(t, f, 1, 996, 997)
	has(t, f, 1, 2, 996)
	told(t, f, 1, 1000, 1001)
	has(t, f, 1, 4, 996)
	told(t, f, 1, 1002)
	has(t, f, 1, 4, 997)
	takes(t, f, 1, 999, 1000, 1001, 1002)
	takesNone(t, f, 1)
	has(t, f, 1, 0, 997)
}

// P17.2, P17.3: many readers.
func TestManyReaders(t *testing.T) {
	const most = 3000
	f := New[int]()
	for n := range most {
		joined(t, f, n%5+1, n+1)
	}
	told(t, f, most, upTo(4)...)
	for n := range most {
		has(t, f, n+1, min(4, n%5+1), max(3-n%5, 0))
		if n%2 == 0 && !f.Leave(n+1) {
			t.Fatal("Leave", n+1)
		}
	}
	told(t, f, most/2, 5)
	for n := range most {
		if n%2 == 0 {
			isNone(t, f, n+1)
			continue
		}
		places := n%5 + 1
		takes(t, f, n+1, upTo(5)[5-places:]...)
		takesNone(t, f, n+1)
	}
}
