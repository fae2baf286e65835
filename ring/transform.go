package ring

import "slices"

const (
	z     = 1753
	share = 8347681 // 256 times it is 1 modulo q
)

// There is the transform.
func There(a []int) ([]int, bool) {
	if !Valid(a) {
		return nil, false
	}
	out := slices.Clone(a)
	root := roots()
	group := 1
	for half := size / 2; half > 0; half /= 2 {
		for start := 0; start < size; start += 2 * half {
			part(out[start:start+half], out[start+half:start+2*half], root[group])
			group++
		}
	}
	return out, true
}

// Back is what has a transform.
func Back(a []int) ([]int, bool) {
	if !Valid(a) {
		return nil, false
	}
	out := slices.Clone(a)
	root := roots()
	mirror := size - 1
	for half := 1; half < size; half *= 2 {
		for start := 0; start < size; start += 2 * half {
			join(out[start:start+half], out[start+half:start+2*half], root[mirror])
			mirror--
		}
	}
	for i, n := range out {
		out[i] = times(n, share) // each of the eight joins doubled it
	}
	return out, true
}

// roots are the powers of z that the groups are parted by: number i is z^r(i).
func roots() [size]int {
	out := [size]int{1}
	power := z
	for half := size / 2; half > 0; half /= 2 {
		for start := 0; start < size; start += 2 * half {
			out[start+half] = times(out[start], power) // r(start+half) is r(start) and this power's exponent
		}
		power = times(power, power)
	}
	return out
}

// part makes of a polynomial modulo X^2n - root^2, its halves low and high of n numbers,
// the one modulo X^n - root, in low, and the one modulo X^n + root, in high.
func part(low, high []int, root int) {
	for i, x := range low {
		y := times(high[i], root)
		low[i] = (x + y) % q
		high[i] = (x - y + q) % q
	}
}

// join undoes part, but for a factor 2. It takes the root of the group that stands as far
// from the row's other end: the exponents of the two add up to 256, and z^256 is -1, so
// that to divide by the one is to multiply by the negative of the other.
func join(low, high []int, mirror int) {
	for i, x := range low {
		y := high[i]
		low[i] = (x + y) % q
		high[i] = times(y-x+q, mirror)
	}
}
