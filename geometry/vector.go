package geometry

import (
	"plexus/api"
	"plexus/field"
)

// vector has the elements of a vector, and zeros behind them, which change
// neither sums nor products.
type vector [maxDimension + 1]int

// term is a multiple of a vector.
type term struct {
	factor int
	of     vector
}

// vectors yields the vectors of n numbers less than q, in order.
func vectors(q, n int) func(yield func(v vector) bool) {
	return func(yield func(v vector) bool) {
		if n == 0 {
			yield(vector{})
			return
		}
		for v := range vectors(q, n-1) {
			for a := range q {
				v[n-1] = a
				if !yield(v) {
					return
				}
			}
		}
	}
}

// isNormalized reports whether the first element other than 0 is 1.
func (v vector) isNormalized() bool {
	for _, a := range v {
		if a != 0 {
			return a == 1
		}
	}
	return false
}

// elements returns the first n elements, in memory of their own.
func (v vector) elements(n int) []int { return append(make([]int, 0, n), v[:n]...) }

// combination returns the sum of the terms.
func combination(f api.Field, terms ...term) vector {
	var sum vector
	for _, t := range terms {
		for i, a := range t.of {
			sum[i] = field.Add(f, sum[i], field.Mul(f, t.factor, a))
		}
	}
	return sum
}

// product returns the sum of the products of the elements.
func product(f api.Field, v, w vector) int {
	sum := 0
	for i, a := range v {
		sum = field.Add(f, sum, field.Mul(f, a, w[i]))
	}
	return sum
}
