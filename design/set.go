package design

import "plexus/api"

// set is a set of points, or of places of blocks, as bits.
type set uint64

// all returns the set of the numbers less than n.
func all(n int) set { return 1<<n - 1 }

func (s set) has(i int) bool { return s>>i&1 == 1 }

func (s set) with(i int) set { return s | 1<<i }

func (s set) size() int {
	n := 0
	for ; s != 0; s &= s - 1 {
		n++
	}
	return n
}

// subsets yields the sets of k of the numbers less than n.
func subsets(n, k int) func(yield func(s set) bool) {
	return func(yield func(s set) bool) {
		if k == 0 {
			yield(0)
			return
		}
		for greatest := k - 1; greatest < n; greatest++ {
			for s := range subsets(greatest, k-1) {
				if !yield(s.with(greatest)) {
					return
				}
			}
		}
	}
}

// through returns the number of blocks of x that have all points of s.
func through(x api.Inc, s set) int {
	n := 0
	for _, b := range x.B {
		if set(b)&s == s {
			n++
		}
	}
	return n
}
