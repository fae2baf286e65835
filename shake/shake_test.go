package shake

import (
	"bytes"
	"crypto/sha3"
	"encoding/hex"
	"math"
	"slices"
	"testing"

	"chancery/api"
)

// kind is one of the two functions, and the library's own beside it.
type kind struct {
	bits, rate int
	sum        func(b []byte, n int) []byte
	want       func(b []byte, n int) []byte
}

func kinds() []kind {
	return []kind{{128, 168, Sum128, sha3.SumSHAKE128}, {256, 136, Sum256, sha3.SumSHAKE256}}
}

// message is n bytes, no two near ones alike.
func message(n int) []byte {
	b := make([]byte, n)
	for i := range b {
		b[i] = byte(i*11 + i/256*5 + 1)
	}
	return b
}

// wrong are numbers of bytes that are told nothing.
func wrong() []int {
	return []int{-1, -2, -api.MaxBytes, math.MinInt, api.MaxBytes + 1, 2 * api.MaxBytes, math.MaxInt}
}

// P2.1: what the document's examples and the standard's papers tell.
func TestSumsKnown(t *testing.T) {
	a3 := bytes.Repeat([]byte{0xa3}, 200)
	cases := []struct {
		what, got, want string
	}{
		{"Sum128 of nothing, 4", hex.EncodeToString(Sum128(nil, 4)), "7f9c2ba4"},
		{"Sum256 of nothing, 4", hex.EncodeToString(Sum256(nil, 4)), "46b9dd2b"},
		{"Sum128 of nothing", hex.EncodeToString(Sum128(nil, 32)), "7f9c2ba4e88f827d616045507605853ed73b8093f6efbc88eb1a6eacfa66ef26"},
		{"Sum256 of nothing", hex.EncodeToString(Sum256(nil, 32)), "46b9dd2b0ba88d13233b3feb743eeb243fcd52ea62b81b82b50c27646ed5762f"},
		{"Sum128 of 200 bytes", hex.EncodeToString(Sum128(a3, 16)), "131ab8d2b594946b9c81333f9bb6e0ce"},
		{"Sum256 of 200 bytes", hex.EncodeToString(Sum256(a3, 16)), "cd8a920ed141aa0407a22d59288652e9"},
	}
	for _, c := range cases {
		if c.got != c.want {
			t.Errorf("%s: %s, want %s", c.what, c.got, c.want)
		}
	}
}

// P2.1: every length of a message over several parts, so also the rate, one byte more and one less.
func TestSumLengths(t *testing.T) {
	for _, k := range kinds() {
		for n := range 3*k.rate + 2 {
			b := message(n)
			if got, want := k.sum(b, 40), k.want(b, 40); !bytes.Equal(got, want) {
				t.Errorf("SHAKE%d of %d bytes: %x, want %x", k.bits, n, got, want)
			}
		}
	}
}

// P2.1: every number of bytes told over several parts, and MaxBytes itself.
func TestSumTold(t *testing.T) {
	for _, k := range kinds() {
		b := message(77)
		whole := k.want(b, api.MaxBytes)
		for n := range 3*k.rate + 2 {
			if got := k.sum(b, n); !bytes.Equal(got, whole[:n]) {
				t.Errorf("SHAKE%d: %d bytes: %x, want %x", k.bits, n, got, whole[:n])
			}
		}
		for _, n := range []int{api.MaxBytes - 1, api.MaxBytes} {
			if got := k.sum(b, n); !bytes.Equal(got, whole[:n]) {
				t.Errorf("SHAKE%d: %d bytes told are others", k.bits, n)
			}
		}
	}
}

// P2.1: none, if the number of bytes is not from 0 to MaxBytes; nil and empty are one.
func TestSumEdges(t *testing.T) {
	for _, k := range kinds() {
		for _, n := range append(wrong(), 0) {
			if got := k.sum(message(9), n); len(got) != 0 {
				t.Errorf("SHAKE%d: %d bytes asked, %d told", k.bits, n, len(got))
			}
		}
		if !bytes.Equal(k.sum(nil, 50), k.sum([]byte{}, 50)) {
			t.Errorf("SHAKE%d: nil is not an empty list", k.bits)
		}
	}
}

// P2.1: a message that is longer than what can be told at once.
func TestSumLong(t *testing.T) {
	for _, k := range kinds() {
		b := message(3*api.MaxBytes + 1)
		if !bytes.Equal(k.sum(b, 64), k.want(b, 64)) {
			t.Errorf("SHAKE%d of a long message", k.bits)
		}
	}
}

// P2.2: nil of other bits.
func TestNewBits(t *testing.T) {
	for _, bits := range []int{0, 1, -1, 127, 129, 136, 168, 255, 257, 512, -128, -256, math.MinInt, math.MaxInt} {
		if New(bits) != nil {
			t.Errorf("a sponge of %d bits", bits)
		}
	}
	for _, k := range kinds() {
		if New(k.bits) == nil {
			t.Errorf("no sponge of %d bits", k.bits)
		}
	}
}

// P2.2: written in pieces of every length.
func TestWritePieces(t *testing.T) {
	for _, k := range kinds() {
		b := message(3*k.rate + 7)
		want := k.want(b, 40)
		for size := 1; size <= 2*k.rate+2; size++ {
			s := New(k.bits)
			for piece := range slices.Chunk(b, size) {
				if !s.Write(piece) || !s.Write(nil) {
					t.Fatalf("SHAKE%d: a piece of %d is refused", k.bits, size)
				}
			}
			if got := s.Read(40); !bytes.Equal(got, want) {
				t.Errorf("SHAKE%d in pieces of %d: %x, want %x", k.bits, size, got, want)
			}
		}
	}
}

// P2.2: read in pieces of every length, also of none, across the rate's end.
func TestReadPieces(t *testing.T) {
	for _, k := range kinds() {
		b := message(k.rate)
		want := k.want(b, 4*k.rate+9)
		for size := 1; size <= 2*k.rate+2; size++ {
			s := New(k.bits)
			s.Write(b)
			var got []byte
			for len(got) < len(want) {
				n := min(size, len(want)-len(got))
				piece := s.Read(n)
				if len(piece) != n || len(s.Read(0)) != 0 {
					t.Fatalf("SHAKE%d: %d bytes told of %d", k.bits, len(piece), n)
				}
				got = append(got, piece...)
			}
			if !bytes.Equal(got, want) {
				t.Errorf("SHAKE%d read in pieces of %d: %x, want %x", k.bits, size, got, want)
			}
		}
	}
}

// P2.2: messages of every length around the rate, read to the rate's end and on.
func TestSpongeLengths(t *testing.T) {
	for _, k := range kinds() {
		for _, n := range []int{0, 1, k.rate - 1, k.rate, k.rate + 1, 2*k.rate - 1, 2 * k.rate, 2*k.rate + 1} {
			b := message(n)
			want := k.want(b, 2*k.rate+1)
			for _, first := range []int{0, 1, k.rate - 1, k.rate, k.rate + 1, 2 * k.rate} {
				s := New(k.bits)
				s.Write(b)
				got := append(s.Read(first), s.Read(2*k.rate+1-first)...)
				if !bytes.Equal(got, want) {
					t.Errorf("SHAKE%d of %d bytes, read %d first: %x, want %x", k.bits, n, first, got, want)
				}
			}
		}
	}
}

// P2.2: the greatest read, more than once, with more behind it.
func TestReadMost(t *testing.T) {
	for _, k := range kinds() {
		h := sha3.NewSHAKE128()
		if k.bits == 256 {
			h = sha3.NewSHAKE256()
		}
		h.Write(message(10))
		want := make([]byte, 2*api.MaxBytes+5)
		h.Read(want)
		s := New(k.bits)
		s.Write(message(10))
		got := slices.Concat(s.Read(api.MaxBytes), s.Read(api.MaxBytes), s.Read(5))
		if !bytes.Equal(got, want) {
			t.Errorf("SHAKE%d: reads of MaxBytes", k.bits)
		}
	}
}

// P2.2: writing behind a read, also of 0 bytes, is false and changes nothing.
func TestWriteBehindRead(t *testing.T) {
	for _, k := range kinds() {
		b := message(k.rate - 3)
		want := k.want(b, 2*k.rate)
		for _, first := range []int{0, 1, k.rate - 1, k.rate, k.rate + 1} {
			s := New(k.bits)
			s.Write(b)
			got := s.Read(first)
			for _, more := range [][]byte{nil, {}, {0}, message(2 * k.rate)} {
				if s.Write(more) {
					t.Errorf("SHAKE%d: %d bytes written behind a read of %d", k.bits, len(more), first)
				}
			}
			got = append(got, s.Read(2*k.rate-first)...)
			if !bytes.Equal(got, want) {
				t.Errorf("SHAKE%d: a refused write behind a read of %d changed what is told", k.bits, first)
			}
		}
	}
	s := New(256)
	s.Read(0)
	if s.Write([]byte("a")) || !bytes.Equal(s.Read(20), Sum256(nil, 20)) {
		t.Error("a read of 0 bytes of nothing is no read")
	}
}

// P2.2: a read that is refused was none: more may be written, and nothing is skipped.
func TestRefusedRead(t *testing.T) {
	for _, k := range kinds() {
		b := message(k.rate + 20)
		want := k.want(b, 60)
		for _, n := range wrong() {
			s := New(k.bits)
			if len(s.Read(n)) != 0 || !s.Write(b[:k.rate]) {
				t.Errorf("SHAKE%d: a refused read of %d at first", k.bits, n)
			}
			if len(s.Read(n)) != 0 || !s.Write(b[k.rate:]) {
				t.Errorf("SHAKE%d: a refused read of %d between writes", k.bits, n)
			}
			got := s.Read(10)
			if len(s.Read(n)) != 0 || s.Write(nil) {
				t.Errorf("SHAKE%d: a refused read of %d between reads", k.bits, n)
			}
			got = append(got, s.Read(50)...)
			if !bytes.Equal(got, want) {
				t.Errorf("SHAKE%d: refused reads of %d changed what is told: %x, want %x", k.bits, n, got, want)
			}
		}
	}
}

// P2.2: two sponges know nothing of each other.
func TestSpongesApart(t *testing.T) {
	for _, k := range kinds() {
		a, b := New(k.bits), New(k.bits)
		first, second := message(k.rate+5), message(90)[7:]
		a.Write(first[:100])
		b.Write(second[:40])
		a.Write(first[100:])
		b.Write(second[40:])
		gotA := a.Read(30)
		gotB := b.Read(200)
		gotA = append(gotA, a.Read(170)...)
		if !bytes.Equal(gotA, k.want(first, 200)) || !bytes.Equal(gotB, k.want(second, 200)) {
			t.Errorf("SHAKE%d: two sponges know of each other", k.bits)
		}
		if !bytes.Equal(New(k.bits).Read(9), k.want(nil, 9)) {
			t.Errorf("SHAKE%d: a new sponge was told something", k.bits)
		}
	}
}

// The rules on memory: what is handed in is not changed, its spare room neither, and not kept.
func TestArguments(t *testing.T) {
	for _, k := range kinds() {
		for _, n := range []int{0, 1, k.rate - 1, k.rate, k.rate + 1, 2*k.rate + 3} {
			whole := message(n + 400)
			b := whole[:n]
			s := New(k.bits)
			s.Write(b)
			k.sum(b, 50)
			if !bytes.Equal(whole, message(n+400)) {
				t.Errorf("SHAKE%d: %d bytes handed in were changed", k.bits, n)
			}
			clear(whole)
			s.Write(message(5))
			if want := k.want(append(message(n), message(5)...), 50); !bytes.Equal(s.Read(50), want) {
				t.Errorf("SHAKE%d: %d bytes handed in were kept", k.bits, n)
			}
		}
	}
	s := [25]uint64{1, 2, 3}
	Permute(s)
	if s != [25]uint64{1, 2, 3} {
		t.Error("Permute changed its argument")
	}
}

// The rules on memory: what is told is new, its spare room too.
func TestAnswersNew(t *testing.T) {
	for _, k := range kinds() {
		b := message(100)
		first := k.sum(b, 50)
		second := k.sum(b, 50)
		clear(first[:cap(first)])
		if want := k.want(message(100), 50); !bytes.Equal(second, want) || !bytes.Equal(k.sum(b, 50), want) {
			t.Errorf("SHAKE%d: two answers share memory", k.bits)
		}
		s := New(k.bits)
		s.Write(b)
		var got []byte
		var pieces [][]byte
		for _, n := range []int{3, 5, 0, k.rate, 1} {
			pieces = append(pieces, s.Read(n))
		}
		for _, piece := range pieces {
			got = append(got, piece...)
			for i := range piece[:cap(piece)] {
				piece[:cap(piece)][i] ^= 0xff
			}
		}
		got = append(got, s.Read(70)...)
		if !bytes.Equal(got, k.want(message(100), len(got))) {
			t.Errorf("SHAKE%d: reads share memory with one another or with the sponge", k.bits)
		}
	}
}
