package shake

import (
	"math/bits"
	"testing"
)

// slowRound is a round without its number, by the chapter's words.
func slowRound(s [25]uint64) [25]uint64 {
	lane := func(x, y int) int { return x%5 + y%5*5 }
	var c [5]uint64
	for x := range 5 {
		for y := range 5 {
			c[x] ^= s[lane(x, y)]
		}
	}
	for x := range 5 {
		for y := range 5 {
			s[lane(x, y)] ^= c[(x+4)%5] ^ bits.RotateLeft64(c[(x+1)%5], 1)
		}
	}
	var moved, out [25]uint64
	moved[0] = s[0]
	x, y := 1, 0
	for t := range 24 {
		moved[lane(y, 2*x+3*y)] = bits.RotateLeft64(s[lane(x, y)], (t+1)*(t+2)/2%64)
		x, y = y, (2*x+3*y)%5
	}
	for x := range 5 {
		for y := range 5 {
			out[lane(x, y)] = moved[lane(x, y)] ^ (^moved[lane(x+1, y)] & moved[lane(x+2, y)])
		}
	}
	return out
}

// slowNumber is the number of the round i, by the chapter's register.
func slowNumber(i int) uint64 {
	number := uint64(0)
	for j := range 7 {
		register := 1
		for range j + 7*i {
			register <<= 1
			if register&256 != 0 {
				register ^= 0x171
			}
		}
		number |= uint64(register&1) << (1<<j - 1)
	}
	return number
}

func slowPermute(s [25]uint64) [25]uint64 {
	for i := range 24 {
		s = slowRound(s)
		s[0] ^= slowNumber(i)
	}
	return s
}

// P2.1: what the permutation is known to make of noughts, once and twice.
func TestPermuteKnown(t *testing.T) {
	once := Permute([25]uint64{})
	twice := Permute(once)
	cases := []struct {
		got  [25]uint64
		want [5]uint64
	}{
		{once, [5]uint64{0xf1258f7940e1dde7, 0x84d5ccf933c0478a, 0xd598261ea65aa9ee, 0xbd1547306f80494d, 0x8b284e056253d057}},
		{twice, [5]uint64{0x2d5c954df96ecb3c, 0x6a332cd07057b56d, 0x093d8d1270d76b6c, 0x8a20d9b25569d094, 0x4f9c4f99e5e7f156}},
	}
	for i, c := range cases {
		if [5]uint64(c.got[:5]) != c.want {
			t.Errorf("noughts permuted %d times begin with %x, want %x", i+1, c.got[:5], c.want)
		}
	}
}

// P2.1: the permutation by the chapter's words, of states with one bit alone (so that
// each lane's place and turn is seen) and of those that come of one another.
func TestPermuteByWords(t *testing.T) {
	for lane := range 25 {
		for _, bit := range []int{0, 1, 31, 32, 63} {
			var s [25]uint64
			s[lane] = 1 << bit
			if got, want := Permute(s), slowPermute(s); got != want {
				t.Errorf("bit %d of lane %d: %x, want %x", bit, lane, got, want)
			}
		}
	}
	var s [25]uint64
	for i := range s {
		s[i] = ^uint64(0)
	}
	for i := range 100 {
		want := slowPermute(s)
		if s = Permute(s); s != want {
			t.Fatalf("step %d: %x, want %x", i, s, want)
		}
	}
}

// P2.1: the rounds' numbers come of the register.
func TestNumbers(t *testing.T) {
	for i, number := range numbers {
		if want := slowNumber(i); number != want {
			t.Errorf("the number of the round %d is %x, want %x", i, number, want)
		}
	}
}
