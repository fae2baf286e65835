package round

import (
	"math"
	"math/rand"
	"testing"
)

// cuts are the two numbers g.
var cuts = []int{95232, 261888}

// slowCut is the number from -n/2 + 1 to n/2 that is r modulo n, looked for one by one.
func slowCut(r, n int) int {
	for r0 := -n/2 + 1; r0 <= n/2; r0++ {
		if (r-r0)%n == 0 {
			return r0
		}
	}
	panic("no such number")
}

// slowDecompose is Decompose by the chapter's words.
func slowDecompose(r, g int) (int, int) {
	r0 := slowCut(r, 2*g)
	if r-r0 == q-1 {
		return 0, r0 - 1
	}
	return (r - r0) / (2 * g), r0
}

// turns are the numbers around the halves and wholes of each turn of n, and the ends.
func turns(n int) []int {
	var list []int
	for at := 0; at < q+n; at += n / 2 {
		for d := -2; d <= 2; d++ {
			if r := at + d; r >= 0 && r < q {
				list = append(list, r)
			}
		}
	}
	return append(list, q-2, q-1)
}

// P4.1: Power at the chapter's examples and at the ends.
func TestPowerExamples(t *testing.T) {
	for r, want := range map[int][2]int{
		0: {0, 0}, 1: {0, 1}, 4095: {0, 4095}, 4096: {0, 4096}, 4097: {1, -4095},
		8191: {1, -1}, 8192: {1, 0}, 8193: {1, 1}, 12288: {1, 4096}, 12289: {2, -4095},
		q - 1: {1023, 0}, q - 2: {1023, -1}, q - 1 - 4095: {1023, -4095}, q - 1 - 4096: {1022, 4096},
	} {
		if r1, r0 := Power(r); [2]int{r1, r0} != want {
			t.Errorf("Power(%d) = %d, %d, want %v", r, r1, r0, want)
		}
	}
}

// P4.1: Power of every number: its r0 is within, and both together are the number.
func TestPowerAll(t *testing.T) {
	for r := range q {
		r1, r0 := Power(r)
		if r0 < -4095 || r0 > 4096 || r1<<13+r0 != r {
			t.Fatalf("Power(%d) = %d, %d", r, r1, r0)
		}
	}
}

// P4.1: Decompose at the chapter's example and at the ends, for both g.
func TestDecomposeExamples(t *testing.T) {
	for _, c := range []struct{ r, g, r1, r0 int }{
		{q - 1, 95232, 0, -1}, {0, 95232, 0, 0}, {95231, 95232, 0, 95231}, {95232, 95232, 0, 95232}, {95233, 95232, 1, -95231},
		{190463, 95232, 1, -1}, {190464, 95232, 1, 0}, {190465, 95232, 1, 1}, {285696, 95232, 1, 95232}, {285697, 95232, 2, -95231},
		{q - 1 - 95231, 95232, 0, -95232}, {q - 1 - 95232, 95232, 43, 95232}, {q - 2, 95232, 0, -2},
		{q - 1, 261888, 0, -1}, {0, 261888, 0, 0}, {261887, 261888, 0, 261887}, {261888, 261888, 0, 261888}, {261889, 261888, 1, -261887},
		{523775, 261888, 1, -1}, {523776, 261888, 1, 0}, {523777, 261888, 1, 1}, {785664, 261888, 1, 261888}, {785665, 261888, 2, -261887},
		{q - 1 - 261887, 261888, 0, -261888}, {q - 1 - 261888, 261888, 15, 261888}, {q - 2, 261888, 0, -2},
	} {
		if r1, r0 := Decompose(c.r, c.g); r1 != c.r1 || r0 != c.r0 {
			t.Errorf("Decompose(%d, %d) = %d, %d, want %d, %d", c.r, c.g, r1, r0, c.r1, c.r0)
		}
	}
}

// P4.1: Decompose of every number: r1 is one of m, and both together are the number modulo q;
// r0 is within, but for the last half turn, where it is one less.
func TestDecomposeAll(t *testing.T) {
	for _, g := range cuts {
		m := (q - 1) / (2 * g)
		for r := range q {
			r1, r0 := Decompose(r, g)
			last := r >= q-g
			if !last && (r0 <= -g || r0 > g || r1*2*g+r0 != r) {
				t.Fatalf("Decompose(%d, %d) = %d, %d", r, g, r1, r0)
			}
			if last && (r1 != 0 || r0 != r-q) {
				t.Fatalf("Decompose(%d, %d) = %d, %d, want 0, %d", r, g, r1, r0, r-q)
			}
			if r1 < 0 || r1 >= m {
				t.Fatalf("Decompose(%d, %d): r1 = %d", r, g, r1)
			}
		}
	}
}

// P4.1: both cuts, around each turn, as the chapter's words have them.
func TestCutsByTheWords(t *testing.T) {
	for _, r := range turns(1 << 13) {
		want := slowCut(r, 1<<13)
		if r1, r0 := Power(r); r0 != want || r1 != (r-want)/(1<<13) {
			t.Fatalf("Power(%d) = %d, %d", r, r1, r0)
		}
	}
	for _, g := range cuts {
		for _, r := range turns(2 * g) {
			want1, want0 := slowDecompose(r, g)
			if r1, r0 := Decompose(r, g); r1 != want1 || r0 != want0 {
				t.Fatalf("Decompose(%d, %d) = %d, %d, want %d, %d", r, g, r1, r0, want1, want0)
			}
		}
	}
}

// P4.1: Hint tells whether r1 changes: z that carries over a turn and z that does not.
func TestHintExamples(t *testing.T) {
	for _, g := range cuts {
		for _, c := range []struct {
			z, r int
			want bool
		}{
			{0, 0, false}, {0, 5, false}, {0, q - 1, false},
			{1, g - 1, false}, {1, g, true}, {2, g - 1, true}, {g, 0, false}, {g + 1, 0, true},
			{2 * g, 0, true}, {2*g - 1, g + 1, false}, {2 * g, g + 1, true},
			{1, q - 1, false}, {g + 1, q - 1, false}, {g + 2, q - 1, true}, // round by q, within the first turn and out of it
			{q - 1, 1, false}, {q - 1, g + 1, true}, {q - 1, g, false}, // one less
			{q - 1, 0, false}, {q - g, 0, false}, {q - g - 1, 0, true}, // to the last half turn, whose r1 is 0
			{1, q - 1 - g, true}, {q - 1, q - g, true},
			{q - 1, q - 1, false},
		} {
			if got := Hint(c.z, c.r, g); got != c.want {
				t.Errorf("Hint(%d, %d, %d) = %v", c.z, c.r, g, got)
			}
		}
	}
}

// P4.1: Hint of any z and r, as the chapter's words have it.
func TestHintByTheWords(t *testing.T) {
	rnd := rand.New(rand.NewSource(4))
	for _, g := range cuts {
		high := func(r int) int { r1, _ := Decompose(r, g); return r1 }
		for _, r := range turns(2 * g) {
			for _, z := range []int{0, 1, 2, 3, g - 1, g, g + 1, 2*g - 1, 2 * g, 2*g + 1, q - g, q - 3, q - 2, q - 1, rnd.Intn(q), rnd.Intn(g)} {
				if want := high(r) != high((r+z)%q); Hint(z, r, g) != want {
					t.Fatalf("Hint(%d, %d, %d) = %v", z, r, g, !want)
				}
			}
		}
	}
}

// P4.1: Use with and without the hint, at the first and the last r1.
func TestUseExamples(t *testing.T) {
	for _, g := range cuts {
		m := (q - 1) / (2 * g)
		for _, c := range []struct {
			h    bool
			r    int
			want int
		}{
			{false, 0, 0}, {false, g, 0}, {false, g + 1, 1}, {false, q - 1, 0}, {false, q - 1 - g, m - 1}, {false, q - g, 0},
			{true, 0, m - 1}, {true, 1, 1}, {true, g, 1}, {true, g + 1, 0}, {true, 2*g - 1, 0}, {true, 2 * g, 0}, {true, 2*g + 1, 2},
			{true, q - 1, m - 1}, {true, q - g, m - 1}, {true, q - 1 - g, 0}, {true, q - 2*g, 0}, {true, q - 1 - 2*g, m - 2}, {true, q - 2 - 2*g, m - 2},
		} {
			if got := Use(c.h, c.r, g); got != c.want {
				t.Errorf("Use(%v, %d, %d) = %d, want %d", c.h, c.r, g, got, c.want)
			}
		}
	}
}

// P4.1: Use of any r, as the chapter's words have it.
func TestUseByTheWords(t *testing.T) {
	for _, g := range cuts {
		m := (q - 1) / (2 * g)
		for r := 0; r < q; r += 7 {
			r1, r0 := Decompose(r, g)
			up := -1
			if r0 > 0 {
				up = 1
			}
			want := (r1 + up + m) % m
			if got := Use(true, r, g); got != want {
				t.Fatalf("Use(true, %d, %d) = %d, want %d", r, g, got, want)
			}
			if got := Use(false, r, g); got != r1 {
				t.Fatalf("Use(false, %d, %d) = %d, want %d", r, g, got, r1)
			}
		}
	}
}

// P4.1: the hint of a z that is small either way leads from r to the r1 of r + z.
func TestHintLeadsBack(t *testing.T) {
	rnd := rand.New(rand.NewSource(5))
	for _, g := range cuts {
		for _, r := range append(turns(2*g), rnd.Perm(1000)...) {
			for range 20 {
				z := (rnd.Intn(2*g+1) - g + q) % q
				want, _ := Decompose((r+z)%q, g)
				if got := Use(Hint(z, r, g), r, g); got != want {
					t.Fatalf("z %d, r %d, g %d: %d, want %d", z, r, g, got, want)
				}
			}
		}
	}
}

// P1: no call of the four panics, whatever it is given.
func TestCutsOfAnything(t *testing.T) {
	odd := []int{math.MinInt, math.MinInt + 1, math.MinInt32, -q, -1, 0, 1, 2, 95231, 95232, 95233, 261888, q - 1, q, q + 1, 1 << 23, math.MaxInt32, 1 << 62, math.MaxInt - 1, math.MaxInt}
	for _, r := range odd {
		Power(r)
		for _, g := range odd {
			Decompose(r, g)
			Use(true, r, g)
			Use(false, r, g)
			for _, z := range odd {
				Hint(z, r, g)
			}
		}
	}
}
