package transform

import "plexus/api"

// numbers yields i and K_k(i), for i from 0 to n.
func numbers(q, n, k int) func(yield func(i, number int) bool) {
	return func(yield func(i, number int) bool) {
		for i := range n + 1 {
			if !yield(i, krawtchouk(q, n, k, i)) {
				return
			}
		}
	}
}

// krawtchouk returns K_k(i). No sum on the way is too large: the sizes of all terms
// are together at most q^n.
func krawtchouk(q, n, k, i int) int {
	sum := 0
	for term := range terms(q, n, k, i) {
		sum += term
	}
	return sum
}

// terms yields the terms of K_k(i).
func terms(q, n, k, i int) func(yield func(term int) bool) {
	return func(yield func(term int) bool) {
		for j := range k + 1 {
			term := choose(i, j) * choose(n-i, k-j) * power(q-1, k-j, mostForNumbers)
			if j%2 == 1 {
				term = -term
			}
			if !yield(term) {
				return
			}
		}
	}
}

// choose returns the number of k-subsets of n elements, which is 0 for k > n.
func choose(n, k int) int {
	count := 1
	for i := range k {
		// The product is i + 1 times the number of (i + 1)-subsets.
		count = count * (n - i) / (i + 1)
	}
	return count
}

// power returns base^n for a base of at least 1, and panics if it is greater than
// most.
func power[N ~int | ~uint64](base N, n int, most N) N {
	product := N(1)
	for range n {
		require(product <= most/base, api.ErrBig)
		product *= base
	}
	return product
}
