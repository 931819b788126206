package incidence

// set is a set of numbers less than 64 as a block has it: the bit i is set if i
// is in it.
type set uint64

// all returns the set of the numbers less than n.
func all(n int) set { return 1<<n - 1 }

// where returns the set of the numbers less than n for which is holds.
func where(n int, is func(i int) bool) set {
	var s set
	for i := range n {
		if is(i) {
			s = s.with(i)
		}
	}
	return s
}

func (s set) has(i int) bool { return s>>i&1 == 1 }

func (s set) with(i int) set { return s | 1<<i }

// points yields what is in s, increasing.
func (s set) points(yield func(i int) bool) {
	for i := 0; s>>i != 0; i++ {
		if s.has(i) && !yield(i) {
			return
		}
	}
}

func (s set) size() int {
	n := 0
	for range s.points {
		n++
	}
	return n
}

// image returns the set of g[i] for all i in s.
func (s set) image(g []int) set {
	var t set
	for i := range s.points {
		t = t.with(g[i])
	}
	return t
}

// closed returns s without p, with a number less for all that is above p.
func (s set) closed(p int) set {
	below := all(p)
	return s&below | s>>1&^below
}
