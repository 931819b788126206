package disjunct

import "plexus/api"

// set is a set of items, or of tests, as bits.
type set uint64

func (s set) has(i int) bool { return s>>i&1 == 1 }

func (s set) with(i int) set { return s | 1<<i }

func (s set) size() int {
	n := 0
	for ; s != 0; s &= s - 1 {
		n++
	}
	return n
}

// positive returns the tests of p that have an item of s.
func positive(p api.Pool, s set) set {
	var tests set
	for j, t := range p.T {
		if set(t)&s != 0 {
			tests = tests.with(j)
		}
	}
	return tests
}

// sets yields the sets of at most d of the numbers less than n.
func sets(n, d int) func(yield func(s set) bool) {
	return func(yield func(s set) bool) {
		if !yield(0) || d == 0 {
			return
		}
		for greatest := range n {
			for s := range sets(greatest, d-1) {
				if !yield(s.with(greatest)) {
					return
				}
			}
		}
	}
}

// choice is an item, as a set, and a set of others.
type choice struct{ item, others set }

// choices yields each of n items with each set of at most d others.
func choices(n, d int) func(yield func(c choice) bool) {
	return func(yield func(c choice) bool) {
		for others := range sets(n, d) {
			for i := range n {
				if !others.has(i) && !yield(choice{item: 1 << i, others: others}) {
					return
				}
			}
		}
	}
}

// pairs yields each two elements of l.
func pairs(l []set) func(yield func(pair [2]set) bool) {
	return func(yield func(pair [2]set) bool) {
		for j, b := range l {
			for _, a := range l[:j] {
				if !yield([2]set{a, b}) {
					return
				}
			}
		}
	}
}

// least returns the least one of n and the numbers of all that is yielded.
func least[T any](n int, yielded func(yield func(x T) bool), number func(x T) int) int {
	for x := range yielded {
		n = min(n, number(x))
	}
	return n
}
