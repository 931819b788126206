package modify_test

import (
	"slices"
	"testing"

	"plexus/api"
	"plexus/code"
	"plexus/modify"
)

// checkWords fails the test unless a code has such a dimension, and such words.
// If these span a space of this dimension, it has no others.
func checkWords(l lab, what string, c api.Code, k int, words [][]int) {
	l.Helper()
	if code.Dim(c) != k {
		l.Errorf("%s: %v has the dimension %d, not %d", what, c, code.Dim(c), k)
	}
	for _, w := range words {
		if !has(c, w) {
			l.Errorf("%s: %v is no word of %v", what, w, c)
		}
	}
}

// P14.1, P14.2: Extend, for codes with any number of words.
func TestExtend(t *testing.T) {
	forCodes(t, func(l lab, c api.Code) {
		if c.N == api.MaxLength {
			return
		}
		var words [][]int
		for _, w := range l.spanning(c) {
			last := slices.Index(l.add[l.total(w)], 0)
			words = append(words, append(slices.Clone(w), last))
		}
		checkWords(l, "Extend", l.good(l.q, c.N+1)(modify.Extend(c)), len(c.G), words)
	})
}

// P14.1, P14.2: Puncture, for codes with any number of words, which loses one
// dimension exactly if a word has weight 1, at the coordinate.
func TestPuncture(t *testing.T) {
	lost := 0
	forLonger(t, func(l lab, c api.Code, i int) {
		k := len(c.G)
		if has(c, unit(c.N, i)) {
			lost++
			k--
		}
		var words [][]int
		for _, w := range l.spanning(c) {
			words = append(words, slices.Delete(slices.Clone(w), i, i+1))
		}
		checkWords(l, "Puncture", l.good(l.q, c.N-1)(modify.Puncture(c, i)), k, words)
	})
	if lost < 500 {
		t.Errorf("only %d codes have lost a dimension", lost)
	}
}

// forLonger runs a test for drawn codes of lengths from 2 on, with a drawn
// coordinate, and with the first or the last one.
func forLonger(t *testing.T, test func(l lab, c api.Code, i int)) {
	forCodes(t, func(l lab, c api.Code) {
		if c.N < 2 {
			return
		}
		test(l, c, l.source.Intn(c.N))
		if l.source.Intn(2) == 0 {
			test(l, c, 0)
		} else {
			test(l, c, c.N-1)
		}
	})
}

// P14.1, P14.2: Shorten, for codes with any number of words, which loses one
// dimension exactly if a word is not 0 at the coordinate.
func TestShorten(t *testing.T) {
	kept := 0
	forLonger(t, func(l lab, c api.Code, i int) {
		k := len(c.G) - 1
		if !slices.ContainsFunc(c.G, func(row []int) bool { return row[i] != 0 }) {
			kept++
			k++
		}
		shortened := l.good(l.q, c.N-1)(modify.Shorten(c, i))
		checkWords(l, "Shorten", shortened, k, nil)
		for _, w := range l.spanning(shortened) {
			if longer := slices.Insert(slices.Clone(w), i, 0); !has(c, longer) {
				l.Errorf("%v, shortened at %d, has %v", c, i, w)
			}
		}
	})
	if kept < 500 {
		t.Errorf("only %d codes are 0 at a coordinate", kept)
	}
}

// P14.1, P14.2: Even, for codes with any number of words, which loses one
// dimension exactly if a word has odd weight.
func TestEven(t *testing.T) {
	lost, kept := 0, 0
	l := newLab(t, 2)
	for n := 1; n <= api.MaxLength; n++ {
		for k := range 10 * (n + 1) {
			c := l.code(n, k/10)
			even := l.good(2, n)(modify.Even(c))
			if slices.ContainsFunc(c.G, func(row []int) bool { return weight(row)%2 == 1 }) {
				checkWords(l, "Even", even, len(c.G)-1, nil)
				lost++
			} else {
				checkWords(l, "Even", even, len(c.G), c.G)
				kept++
			}
			for _, w := range l.spanning(even) {
				if weight(w)%2 == 1 || !has(c, w) {
					l.Errorf("%v is no word of even weight of %v", w, c)
				}
			}
		}
	}
	if lost < 500 || kept < 100 {
		t.Errorf("%d codes have words of odd weight, %d have none", lost, kept)
	}
}

// P14.1, P14.2: Turn, for codes with any number of words.
func TestTurn(t *testing.T) {
	forCodes(t, func(l lab, c api.Code) {
		g := l.source.Perm(c.N)
		var words [][]int
		for _, w := range l.spanning(c) {
			turned := slices.Clone(w)
			for i, a := range w {
				turned[g[i]] = a
			}
			words = append(words, turned)
		}
		checkWords(l, "Turn", l.good(l.q, c.N)(modify.Turn(c, g)), len(c.G), words)
	})
}

// P14.1, P14.2: Sum, for codes with any number of words.
func TestSum(t *testing.T) {
	forSums(t, func(l lab, a, b api.Code) {
		words := [][]int{slices.Concat(l.word(a), l.word(b))}
		for _, u := range a.G {
			words = append(words, slices.Concat(u, make([]int, b.N)))
		}
		for _, v := range b.G {
			words = append(words, slices.Concat(make([]int, a.N), v))
		}
		checkWords(l, "Sum", l.good(l.q, a.N+b.N)(modify.Sum(a, b)), len(a.G)+len(b.G), words)
	})
}

// P14.1, P14.2: Double, for codes with any number of words.
func TestDouble(t *testing.T) {
	forDoubles(t, func(l lab, a, b api.Code) {
		var words [][]int
		for _, u := range l.spanning(a) {
			for _, v := range append(l.spanning(b), make([]int, b.N)) {
				words = append(words, slices.Concat(u, l.plus(u, v)))
			}
		}
		checkWords(l, "Double", l.good(l.q, 2*a.N)(modify.Double(a, b)), len(a.G)+len(b.G), words)
	})
}

// P14.1, P14.2: Concat, for codes with any number of words, which doubles the
// dimension.
func TestConcat(t *testing.T) {
	forConcats(t, func(l lab, outer, inner api.Code) {
		var words [][]int
		for _, w := range l.spanning(outer) {
			for a := range 4 {
				words = append(words, replaced(l.times(a, w), inner))
			}
		}
		checkWords(l, "Concat", l.good(2, outer.N*inner.N)(modify.Concat(outer, inner)), 2*len(outer.G), words)
	})
}

// P14.6.
func TestWordsOfConcat(t *testing.T) {
	forConcats(t, func(l lab, outer, inner api.Code) {
		if !l.areFew(len(outer.G)) {
			return
		}
		words, err := code.Words(l.good(2, outer.N*inner.N)(modify.Concat(outer, inner)))
		var want [][]int
		for _, w := range l.words(outer) {
			want = append(want, replaced(w, inner))
		}
		slices.SortFunc(want, slices.Compare[[]int])
		if err != api.OK || !sameLists(words, want) {
			l.Errorf("words of %v in %v: %v, error %d, not %v", outer, inner, words, err, want)
		}
	})
}

// distance returns that of a code, and 0 if its dimension is 0.
func distance(l lab, c api.Code) int {
	l.Helper()
	d, err := code.Distance(c)
	if err != api.OK && (err != api.ErrNone || len(c.G) > 0) {
		l.Fatalf("distance of %v: error %d", c, err)
	}
	return d
}

// P14.3: the distance of a code that is extended.
func TestDistanceOfExtended(t *testing.T) {
	grown := [2]int{}
	forCodes(t, func(l lab, c api.Code) {
		if l.q > 2 || c.N == api.MaxLength || len(c.G) == 0 || !l.areFew(len(c.G)) {
			return
		}
		d, longer := distance(l, c), distance(l, l.good(2, c.N+1)(modify.Extend(c)))
		if longer%2 != 0 || longer != d && longer != d+1 {
			l.Errorf("distance of %v: %d, and extended: %d", c, d, longer)
		}
		grown[longer-d]++
	})
	if grown[0] < 20 || grown[1] < 20 {
		t.Errorf("%d distances stay, %d grow", grown[0], grown[1])
	}
}

// P14.3: the distances of codes with a coordinate less, and of words of even
// weight.
func TestDistanceOfLess(t *testing.T) {
	lost := [3]int{}
	forLonger(t, func(l lab, c api.Code, i int) {
		if len(c.G) == 0 || !l.areFew(len(c.G)) {
			return
		}
		d := distance(l, c)
		less := map[string]api.Code{"Shorten": l.good(l.q, c.N-1)(modify.Shorten(c, i))}
		if l.q == 2 {
			less["Even"] = l.good(2, c.N)(modify.Even(c))
		}
		for what, e := range less {
			if len(e.G) > 0 && distance(l, e) < d {
				l.Errorf("distance of %v: %d, and after %s (%d): %d", c, d, what, i, distance(l, e))
			}
		}
		if e := l.good(l.q, c.N-1)(modify.Puncture(c, i)); len(e.G) < len(c.G) {
			lost[2]++
		} else if loss := d - distance(l, e); loss != 0 && loss != 1 {
			l.Errorf("distance of %v: %d, and punctured at %d: %d", c, d, i, d-loss)
		} else {
			lost[loss]++
		}
	})
	if slices.Min(lost[:]) < 50 {
		t.Errorf("%d punctured codes lose nothing, %d lose 1 of the distance, %d a dimension", lost[0], lost[1], lost[2])
	}
}

// P14.3: the distance of Sum.
func TestDistanceOfSum(t *testing.T) {
	forSums(t, func(l lab, a, b api.Code) {
		if len(a.G) == 0 || len(b.G) == 0 || !l.areFew(len(a.G)+len(b.G)) {
			return
		}
		want := min(distance(l, a), distance(l, b))
		if d := distance(l, l.good(l.q, a.N+b.N)(modify.Sum(a, b))); d != want {
			l.Errorf("distance of the sum of %v and %v: %d, not %d", a, b, d, want)
		}
	})
}

// P14.3: the distance of Double.
func TestDistanceOfDouble(t *testing.T) {
	lesser := [2]int{}
	forDoubles(t, func(l lab, a, b api.Code) {
		if len(a.G) == 0 || len(b.G) == 0 || !l.areFew(len(a.G)+len(b.G)) {
			return
		}
		first, second := 2*distance(l, a), distance(l, b)
		if d := distance(l, l.good(l.q, 2*a.N)(modify.Double(a, b))); d != min(first, second) {
			l.Errorf("distance of the double of %v and %v: %d, not %d", a, b, d, min(first, second))
		}
		if first < second {
			lesser[0]++
		} else {
			lesser[1]++
		}
	})
	if lesser[0] < 20 || lesser[1] < 20 {
		t.Errorf("%d distances are those of the first code, %d those of the second one", lesser[0], lesser[1])
	}
}

// P14.3: the distance of Concat.
func TestDistanceOfConcat(t *testing.T) {
	two := newLab(t, 2)
	forConcats(t, func(l lab, outer, inner api.Code) {
		if len(outer.G) == 0 || !l.areFew(len(outer.G)) {
			return
		}
		least := distance(l, outer) * distance(two, inner)
		if d := distance(l, l.good(2, outer.N*inner.N)(modify.Concat(outer, inner))); d < least {
			l.Errorf("distance of %v in %v: %d, less than %d", outer, inner, d, least)
		}
	})
}

// P14.4: the duals of codes with a coordinate less.
func TestDualsOfLess(t *testing.T) {
	forLonger(t, func(l lab, c api.Code, i int) {
		good := l.good(l.q, c.N-1)
		punctured, shortened := good(modify.Puncture(c, i)), good(modify.Shorten(c, i))
		got, err := modify.Shorten(code.Dual(c), i)
		check(l.T, "Shorten of the dual", got, err, code.Dual(punctured))
		got, err = modify.Puncture(code.Dual(c), i)
		check(l.T, "Puncture of the dual", got, err, code.Dual(shortened))
	})
}

// P14.4: the duals of turned codes, of words of even weight, and of extended
// codes.
func TestDualsOfOne(t *testing.T) {
	forCodes(t, func(l lab, c api.Code) {
		g := l.source.Perm(c.N)
		turned, err := modify.Turn(code.Dual(c), g)
		check(l.T, "Turn of the dual", turned, err, code.Dual(l.good(l.q, c.N)(modify.Turn(c, g))))
		if l.q == 2 {
			dual := code.Dual(l.good(2, c.N)(modify.Even(c)))
			for _, w := range append(slices.Clone(code.Dual(c).G), ones(c.N)) {
				if !has(dual, w) {
					l.Errorf("%v is not in the dual of the words of even weight of %v", w, c)
				}
			}
		}
		if c.N < api.MaxLength {
			if dual := code.Dual(l.good(l.q, c.N+1)(modify.Extend(c))); !has(dual, ones(c.N+1)) {
				l.Errorf("1 everywhere is not in the dual of %v, extended", c)
			}
		}
	})
}

// P14.4: the dual of Sum.
func TestDualOfSum(t *testing.T) {
	forSums(t, func(l lab, a, b api.Code) {
		got, err := modify.Sum(code.Dual(a), code.Dual(b))
		check(l.T, "Sum of the duals", got, err, code.Dual(l.good(l.q, a.N+b.N)(modify.Sum(a, b))))
	})
}

// P14.4: the dual of Double, over fields whose elements are their own negatives.
func TestDualOfDouble(t *testing.T) {
	forDoubles(t, func(l lab, a, b api.Code) {
		if l.q%2 != 0 {
			return
		}
		good := l.good(l.q, 2*a.N)
		other := good(modify.Double(code.Dual(b), code.Dual(a)))
		var halves []int
		for i := range 2 * a.N {
			halves = append(halves, (i+a.N)%(2*a.N))
		}
		got, err := modify.Turn(other, halves)
		check(l.T, "Double of the duals", got, err, code.Dual(good(modify.Double(a, b))))
	})
}

// P14.5: Extend, Turn and Even.
func TestBackToOne(t *testing.T) {
	forCodes(t, func(l lab, c api.Code) {
		if c.N < api.MaxLength {
			got, err := modify.Puncture(l.good(l.q, c.N+1)(modify.Extend(c)), c.N)
			check(l.T, "Extend, punctured", got, err, c)
		}
		g, inverse := l.source.Perm(c.N), make([]int, c.N)
		for i, j := range g {
			inverse[j] = i
		}
		got, err := modify.Turn(l.good(l.q, c.N)(modify.Turn(c, g)), inverse)
		check(l.T, "Turn, and back", got, err, c)
		if l.q == 2 {
			even := l.good(2, c.N)(modify.Even(c))
			got, err := modify.Even(even)
			check(l.T, "Even of Even", got, err, even)
		}
	})
}

// P14.5: Sum, without all coordinates of one part, for some of the drawn codes.
func TestBackToParts(t *testing.T) {
	forSums(t, func(l lab, a, b api.Code) {
		if l.source.Intn(3) > 0 {
			return
		}
		sum := l.good(l.q, a.N+b.N)(modify.Sum(a, b))
		for _, less := range []func(c api.Code, i int) (api.Code, api.Errno){modify.Puncture, modify.Shorten} {
			first, second := sum, sum
			for first.N > a.N {
				first = l.good(l.q, first.N-1)(less(first, l.from(a.N, first.N-1)))
			}
			for second.N > b.N {
				second = l.good(l.q, second.N-1)(less(second, l.from(0, second.N-b.N-1)))
			}
			check(l.T, "the first part", first, api.OK, a)
			check(l.T, "the second part", second, api.OK, b)
		}
	})
}
