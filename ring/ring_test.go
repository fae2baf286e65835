package ring

import (
	"math"
	"math/big"
	"math/rand"
	"slices"
	"testing"
)

const half = (q - 1) / 2

// term is the polynomial n X^k.
func term(k, n int) []int {
	a := make([]int, 256)
	a[k] = n
	return a
}

// filled is the polynomial whose numbers are all n.
func filled(n int) []int { return slices.Repeat([]int{n}, 256) }

// some are polynomials of several kinds: bare, full, with one term, and drawn from a fixed seed.
func some() [][]int {
	list := [][]int{make([]int, 256), filled(1), filled(q - 1), filled(half), filled(half + 1), term(0, 1), term(1, 1), term(255, 1), term(0, q-1), term(255, q-1), term(128, 2)}
	r := rand.New(rand.NewSource(3))
	for range 6 {
		a := make([]int, 256)
		for i := range a {
			a[i] = r.Intn(q)
		}
		list = append(list, a)
	}
	return list
}

// wrong are lists that are no polynomials.
func wrong() map[string][]int {
	list := map[string][]int{
		"nil":         nil,
		"empty":       {},
		"one number":  {1},
		"255 numbers": make([]int, 255),
		"257 numbers": make([]int, 257),
		"512 numbers": make([]int, 512),
		"room of 256": make([]int, 255, 256),
	}
	for name, n := range map[string]int{"-1": -1, "-q": -q, "q": q, "q + 1": q + 1, "2 q": 2 * q, "2^32": 1 << 32, "-2^32": -1 << 32, "the least": math.MinInt, "the greatest": math.MaxInt} {
		for where, k := range map[string]int{" first": 0, " inside": 100, " last": 255} {
			list[name+where] = term(k, n)
		}
	}
	return list
}

// two are the calls of two polynomials, one those of one.
func two() map[string]func(a, b []int) ([]int, bool) {
	return map[string]func(a, b []int) ([]int, bool){"Add": Add, "Sub": Sub, "Mul": Mul, "Point": Point}
}

func one() map[string]func(a []int) ([]int, bool) {
	return map[string]func(a []int) ([]int, bool){"There": There, "Back": Back}
}

// modulo is n modulo q, from 0 on.
func modulo(n int) int { return (n%q + q) % q }

// slowMul is the product by the chapter's words: X^256 is -1.
func slowMul(a, b []int) []int {
	out := make([]int, 256)
	for i, x := range a {
		for j, y := range b {
			n := x * y % q
			if i+j >= 256 {
				n = -n
			}
			out[(i+j)%256] = modulo(out[(i+j)%256] + n)
		}
	}
	return out
}

// point is the place at which the transform's value number i is taken.
func point(i int) int {
	turned := 0
	for bit := range 8 {
		turned |= i >> bit & 1 << (7 - bit)
	}
	return int(new(big.Int).Exp(big.NewInt(1753), big.NewInt(int64(2*turned+1)), big.NewInt(q)).Int64())
}

// points are all places in their order.
func points() []int {
	list := make([]int, 256)
	for i := range list {
		list[i] = point(i)
	}
	return list
}

// slowThere is the transform by the chapter's words.
func slowThere(a, places []int) []int {
	out := make([]int, 256)
	for i, x := range places {
		for _, n := range slices.Backward(a) {
			out[i] = (out[i]*x + n) % q
		}
	}
	return out
}

// same fails the test if a list is not the one that is wanted.
func same(t *testing.T, what string, got []int, ok bool, want []int) {
	t.Helper()
	if !ok || !slices.Equal(got, want) {
		t.Errorf("%s: %v, %v, want %v", what, got, ok, want)
	}
}

// P3.1: what a polynomial is.
func TestValid(t *testing.T) {
	for i, a := range some() {
		if !Valid(a) {
			t.Errorf("polynomial %d is none", i)
		}
	}
	if !Valid(make([]int, 256, 300)) {
		t.Error("256 numbers with spare room are none")
	}
	for what, a := range wrong() {
		if Valid(a) {
			t.Errorf("%s is a polynomial", what)
		}
	}
	for k := range 256 {
		if !Valid(term(k, q-1)) || Valid(term(k, q)) || Valid(term(k, -1)) {
			t.Errorf("number %d is judged wrongly", k)
		}
	}
}

// P3.1: nothing and false, if an argument is no polynomial, whichever it is.
func TestRefused(t *testing.T) {
	good := filled(7)
	for what, bad := range wrong() {
		for name, call := range two() {
			for where, args := range map[string][2][]int{"first": {bad, good}, "second": {good, bad}, "both": {bad, bad}} {
				if out, ok := call(args[0], args[1]); ok || len(out) != 0 {
					t.Errorf("%s, %s as %s: %d numbers, %v", name, what, where, len(out), ok)
				}
			}
		}
		for name, call := range one() {
			if out, ok := call(bad); ok || len(out) != 0 {
				t.Errorf("%s, %s: %d numbers, %v", name, what, len(out), ok)
			}
		}
	}
}

// P3.1: the sum, the difference, and the products place by place.
func TestNumberByNumber(t *testing.T) {
	for _, a := range some() {
		for _, b := range some() {
			var sum, difference, products []int
			for i := range a {
				sum = append(sum, modulo(a[i]+b[i]))
				difference = append(difference, modulo(a[i]-b[i]))
				products = append(products, modulo(a[i]*b[i]))
			}
			got, ok := Add(a, b)
			same(t, "Add", got, ok, sum)
			got, ok = Sub(a, b)
			same(t, "Sub", got, ok, difference)
			got, ok = Point(a, b)
			same(t, "Point", got, ok, products)
		}
	}
}

// P3.1: numbers at the edges, in either argument.
func TestNumbersAtEdges(t *testing.T) {
	edges := []int{0, 1, 2, half - 1, half, half + 1, half + 2, q - 2, q - 1}
	for _, x := range edges {
		for _, y := range edges {
			got, ok := Add(filled(x), filled(y))
			same(t, "Add", got, ok, filled(modulo(x+y)))
			got, ok = Sub(filled(x), filled(y))
			same(t, "Sub", got, ok, filled(modulo(x-y)))
			got, ok = Point(filled(x), filled(y))
			same(t, "Point", got, ok, filled(modulo(x*y)))
		}
	}
}

// P3.1: the product, by the chapter's words.
func TestMul(t *testing.T) {
	for _, a := range some() {
		for _, b := range some() {
			got, ok := Mul(a, b)
			same(t, "Mul", got, ok, slowMul(a, b))
		}
	}
}

// P3.1: terms: X^256 is -1, and no power below it is.
func TestMulTerms(t *testing.T) {
	for i := range 256 {
		for j := 0; j < 256; j += 5 {
			want := term((i+j)%256, 15)
			if i+j >= 256 {
				want = term((i+j)%256, q-15)
			}
			got, ok := Mul(term(i, 3), term(j, 5))
			same(t, "Mul of terms", got, ok, want)
		}
	}
	got, ok := Mul(term(255, 1), term(1, 1))
	same(t, "X^255 times X", got, ok, term(0, q-1))
}

// P3.1: the chapter's examples of the transform.
func TestThereExamples(t *testing.T) {
	got, ok := There(term(0, 1))
	same(t, "There of 1", got, ok, filled(1))
	got, ok = There(term(1, 1))
	same(t, "There of X", got, ok, points())
	if got[0] != 1753 || got[1] != q-1753 {
		t.Errorf("There of X begins with %d, %d", got[0], got[1])
	}
}

// P3.1: the transform's values, and the polynomial that has them, of each term and of whole polynomials.
func TestThereByWords(t *testing.T) {
	places := points()
	list := some()
	for k := range 256 {
		list = append(list, term(k, 1), term(k, q-1))
	}
	for _, a := range list {
		values := slowThere(a, places)
		got, ok := There(a)
		same(t, "There", got, ok, values)
		got, ok = Back(values)
		same(t, "Back", got, ok, a)
	}
}

// P3.1: there and back, and back and there.
func TestThereAndBack(t *testing.T) {
	list := some()
	for k := range 256 {
		list = append(list, term(k, k+1), term(k, q-1-k))
	}
	for _, a := range list {
		values, _ := There(a)
		got, ok := Back(values)
		same(t, "there and back", got, ok, a)
		coefficients, _ := Back(a)
		got, ok = There(coefficients)
		same(t, "back and there", got, ok, a)
		if !Valid(values) || !Valid(coefficients) {
			t.Error("what is told is no polynomial")
		}
	}
}

// slowCenter looks for the number by its definition.
func slowCenter(n int) int {
	c := int(new(big.Int).Mod(big.NewInt(int64(n)), big.NewInt(q)).Int64())
	if c > half {
		c -= q
	}
	return c
}

// numbers are those around every turn, near and far, of both signs.
func numbers() []int {
	list := []int{math.MinInt, math.MinInt + 1, math.MaxInt, math.MaxInt - 1, math.MinInt32, math.MaxInt32, math.MaxUint32, 1 << 40, -1 << 40}
	for _, turns := range []int{-1 << 30, -3, -2, -1, 0, 1, 2, 3, 1 << 30} {
		for _, at := range []int{-half, 0, half} {
			for d := -3; d <= 3; d++ {
				list = append(list, turns*q+at+d)
			}
		}
	}
	return list
}

// P3.2: the number around 0.
func TestCenter(t *testing.T) {
	known := map[int]int{0: 0, 1: 1, -1: -1, q - 1: -1, q: 0, q + 1: 1, -q: 0, 1 - q: 1, half: half, half + 1: -half, -half: -half, -half - 1: half, 3 * q: 0}
	for n, want := range known {
		if got := Center(n); got != want {
			t.Errorf("Center(%d) = %d, want %d", n, got, want)
		}
	}
	for _, n := range numbers() {
		if got, want := Center(n), slowCenter(n); got != want || got < -half || got > half {
			t.Errorf("Center(%d) = %d, want %d", n, got, want)
		}
	}
	for n := -q; n <= q; n += 97 {
		if got, want := Center(n), slowCenter(n); got != want {
			t.Errorf("Center(%d) = %d, want %d", n, got, want)
		}
	}
}

// P3.2: the greatest, wherever it stands, and of either sign.
func TestNorm(t *testing.T) {
	cases := []struct {
		list []int
		want int
	}{
		{nil, 0}, {[]int{}, 0}, {[]int{0}, 0}, {[]int{q, -q, 2 * q}, 0},
		{[]int{1}, 1}, {[]int{-1}, 1}, {[]int{q - 1}, 1}, {[]int{1 - q}, 1},
		{[]int{3, -5, q - 17}, 17}, {[]int{q - 17, 3, -5}, 17}, {[]int{3, 17, -5}, 17},
		{[]int{half}, half}, {[]int{half + 1}, half}, {[]int{-half}, half}, {[]int{-half - 1}, half},
		{[]int{half - 1}, half - 1}, {[]int{half + 2}, half - 1}, {[]int{0, half, 0}, half},
	}
	for _, c := range cases {
		if got := Norm(c.list); got != c.want {
			t.Errorf("Norm(%v) = %d, want %d", c.list, got, c.want)
		}
	}
	for _, n := range numbers() {
		want := max(slowCenter(n), -slowCenter(n))
		for _, list := range [][]int{{n}, {0, n}, {n, 0}, {0, n, q}} {
			if got := Norm(list); got != want {
				t.Errorf("Norm(%v) = %d, want %d", list, got, want)
			}
		}
	}
}

// P3.2: lists of any length.
func TestNormLengths(t *testing.T) {
	for _, n := range []int{1, 2, 255, 256, 257, 1000, 1 << 16} {
		for _, at := range []int{0, n / 2, n - 1} {
			list := slices.Repeat([]int{-4}, n)
			list[at] = 3*q - 5
			if got := Norm(list); got != 5 {
				t.Errorf("Norm of %d numbers, the greatest at %d: %d", n, at, got)
			}
		}
	}
}

// roomy is a copy of a list with spare room behind it, and the whole of it.
func roomy(a []int) (list, whole []int) {
	whole = append(slices.Clone(a), filled(-7)...)
	return whole[:len(a)], whole
}

// The rules on memory: what is handed in is not changed, its spare room neither.
func TestArgumentsUnchanged(t *testing.T) {
	lists := some()
	for _, bad := range wrong() {
		lists = append(lists, bad)
	}
	for _, list := range lists {
		a, wholeA := roomy(list)
		b, wholeB := roomy(list)
		_, before := roomy(list)
		for _, call := range two() {
			call(a, b)
			call(b, filled(3))
			call(a, a)
		}
		for _, call := range one() {
			call(a)
		}
		Valid(a)
		Norm(a)
		if !slices.Equal(wholeA, before) || !slices.Equal(wholeB, before) {
			t.Errorf("what was handed in was changed: %v", list)
		}
	}
}

// The rules on memory: what is told is new, its spare room too, and what is handed in is not kept.
func TestAnswersNew(t *testing.T) {
	calls := map[string]func(a, b []int) ([]int, bool){}
	for name, call := range two() {
		calls[name] = call
		calls[name+" of one list twice"] = func(a, b []int) ([]int, bool) { return call(a, a) }
	}
	for name, call := range one() {
		calls[name] = func(a, b []int) ([]int, bool) { return call(a) }
	}
	for name, call := range calls {
		for _, list := range some() {
			a, wholeA := roomy(list)
			b, wholeB := roomy(term(0, 1))
			_, beforeA := roomy(list)
			_, beforeB := roomy(term(0, 1))
			first, _ := call(a, b)
			second, _ := call(a, b)
			want := slices.Clone(second)
			for i := range first[:cap(first)] {
				first[:cap(first)][i] = -9
			}
			if !slices.Equal(wholeA, beforeA) || !slices.Equal(wholeB, beforeB) {
				t.Errorf("%s: an answer shares memory with an argument", name)
			}
			third, _ := call(a, b)
			clear(wholeA)
			clear(wholeB)
			if !slices.Equal(second, want) || !slices.Equal(third, want) {
				t.Errorf("%s: an answer shares memory with another, or with an argument", name)
			}
		}
	}
}

// What a call answers hangs on its arguments alone: a refused call, or another, between two alike changes nothing.
func TestNothingKept(t *testing.T) {
	for name, call := range two() {
		a, b := some()[12], some()[13]
		want, _ := call(a, b)
		call(filled(q), a)
		call(b, filled(q-1))
		There(b)
		Back(nil)
		got, ok := call(a, b)
		same(t, name+" again", got, ok, want)
	}
}
