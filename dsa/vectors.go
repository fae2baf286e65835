package dsa

import "chancery/ring"

// vector is a list of n polynomials, each made by a function of its place.
func vector(n int, of func(i int) []int) [][]int {
	list := make([][]int, n)
	for i := range list {
		list[i] = of(i)
	}
	return list
}

// add is the sum of two vectors.
func add(a, b [][]int) [][]int {
	return vector(len(a), func(i int) []int { sum, _ := ring.Add(a[i], b[i]); return sum })
}

// sub is the difference of two vectors.
func sub(a, b [][]int) [][]int {
	return vector(len(a), func(i int) []int { rest, _ := ring.Sub(a[i], b[i]); return rest })
}

// there is the transforms of a vector.
func there(a [][]int) [][]int {
	return vector(len(a), func(i int) []int { values, _ := ring.There(a[i]); return values })
}

// back is the vector that has these transforms.
func back(a [][]int) [][]int {
	return vector(len(a), func(i int) []int { list, _ := ring.Back(a[i]); return list })
}

// scale is the transforms of one polynomial times a vector, of their transforms.
func scale(c []int, a [][]int) [][]int {
	return vector(len(a), func(i int) []int { product, _ := ring.Point(c, a[i]); return product })
}

// times is the transforms of a matrix times a vector, of their transforms.
func times(rows [][][]int, a [][]int) [][]int {
	return vector(len(rows), func(i int) []int {
		sum := make([]int, size)
		for j, entry := range rows[i] {
			product, _ := ring.Point(entry, a[j])
			sum, _ = ring.Add(sum, product)
		}
		return sum
	})
}

// numberwise is a vector made number by number.
func numberwise(a [][]int, of func(n int) int) [][]int {
	return vector(len(a), func(i int) []int {
		list := make([]int, len(a[i]))
		for at, n := range a[i] {
			list[at] = of(n)
		}
		return list
	})
}

// norm is the greatest norm of a vector's polynomials.
func norm(a [][]int) int {
	most := 0
	for _, list := range a {
		most = max(most, ring.Norm(list))
	}
	return most
}
