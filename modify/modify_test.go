package modify_test

import (
	"math"
	"slices"
	"testing"

	"plexus/api"
	"plexus/code"
	"plexus/modify"
)

// binary returns the binary code of length n with these rows.
func binary(n int, rows ...[]int) api.Code { return api.Code{Q: 2, N: n, G: rows} }

// P14.1: the examples of the chapter.
func TestExamples(t *testing.T) {
	c, err := modify.Extend(binary(3, []int{1, 0, 0}, []int{0, 1, 1}))
	check(t, "Extend", c, err, binary(4, []int{1, 0, 0, 1}, []int{0, 1, 1, 0}))
	c, err = modify.Puncture(binary(3, []int{1, 0, 0}), 0)
	check(t, "Puncture", c, err, binary(2))
	c, err = modify.Shorten(binary(3, []int{1, 0, 1}, []int{0, 1, 1}), 0)
	check(t, "Shorten", c, err, binary(2, []int{1, 1}))
	c, err = modify.Double(binary(2, []int{1, 1}), binary(2, []int{0, 1}))
	check(t, "Double", c, err, binary(4, []int{1, 1, 1, 0}, []int{0, 0, 0, 1}))
	c, err = modify.Even(everything(2, 2))
	check(t, "Even", c, err, binary(2, []int{1, 1}))
	inner := binary(3, []int{1, 0, 1}, []int{0, 1, 1})
	c, err = modify.Concat(api.Code{Q: 4, N: 2, G: [][]int{{1, 2}}}, inner)
	check(t, "Concat", c, err, binary(6, []int{1, 0, 1, 0, 1, 1}, []int{0, 1, 1, 1, 1, 0}))
	c, err = modify.Sum(binary(2, []int{1, 1}), inner)
	check(t, "Sum", c, err, binary(5, []int{1, 1, 0, 0, 0}, []int{0, 0, 1, 0, 1}, []int{0, 0, 0, 1, 1}))
	c, err = modify.Turn(api.Code{Q: 3, N: 3, G: [][]int{{1, 0, 2}}}, []int{1, 2, 0})
	check(t, "Turn", c, err, api.Code{Q: 3, N: 3, G: [][]int{{1, 2, 0}}})
}

// P14.1: Extend, for all words of codes that are small.
func TestExtendByHand(t *testing.T) {
	forSmall(t, func(l lab, c api.Code) {
		var words [][]int
		for _, w := range l.words(c) {
			for a := range l.q {
				if longer := append(slices.Clone(w), a); l.total(longer) == 0 {
					words = append(words, longer)
				}
			}
		}
		got, err := modify.Extend(c)
		check(t, "Extend", got, err, l.of(c.N+1, words))
	})
}

// P14.1: Puncture and Shorten, for all words of codes that are small.
func TestCoordinatesByHand(t *testing.T) {
	forSmall(t, func(l lab, c api.Code) {
		for i := range c.N {
			var all, zeros [][]int
			for _, w := range l.words(c) {
				shorter := slices.Delete(slices.Clone(w), i, i+1)
				all = append(all, shorter)
				if w[i] == 0 {
					zeros = append(zeros, shorter)
				}
			}
			punctured, err := modify.Puncture(c, i)
			shortened, errShorten := modify.Shorten(c, i)
			if c.N == 1 {
				checkRefused(t, "Puncture", punctured, err, api.ErrArg)
				checkRefused(t, "Shorten", shortened, errShorten, api.ErrArg)
				continue
			}
			check(t, "Puncture", punctured, err, l.of(c.N-1, all))
			check(t, "Shorten", shortened, errShorten, l.of(c.N-1, zeros))
		}
	})
}

// P14.1: Even, for all words of codes that are small.
func TestEvenByHand(t *testing.T) {
	forSmall(t, func(l lab, c api.Code) {
		got, err := modify.Even(c)
		if l.q != 2 {
			checkRefused(t, "Even", got, err, api.ErrArg)
			return
		}
		odd := func(w []int) bool { return weight(w)%2 == 1 }
		check(t, "Even", got, err, l.of(c.N, slices.DeleteFunc(l.words(c), odd)))
	})
}

// P14.1: Turn, for all words of codes that are small, and all permutations.
func TestTurnByHand(t *testing.T) {
	forSmall(t, func(l lab, c api.Code) {
		for _, g := range lists(c.N) {
			got, err := modify.Turn(c, g)
			if !isPermutation(g) {
				checkRefused(t, "Turn", got, err, api.ErrArg)
				continue
			}
			var words [][]int
			for _, w := range l.words(c) {
				turned := make([]int, c.N)
				for i, a := range w {
					turned[g[i]] = a
				}
				words = append(words, turned)
			}
			check(t, "Turn", got, err, l.of(c.N, words))
		}
	})
}

// isPermutation reports whether the list g has all numbers less than its length.
func isPermutation(g []int) bool {
	for i := range g {
		if !slices.Contains(g, i) {
			return false
		}
	}
	return true
}

// lists returns the lists of n numbers less than n: all of them for up to 3
// numbers, and those with different ones, and some others, for more.
func lists(n int) [][]int {
	all := [][]int{nil}
	for range n {
		var longer [][]int
		for _, list := range all {
			for a := range n {
				if n <= 3 || !slices.Contains(list, a) || a == 2 {
					longer = append(longer, append(slices.Clone(list), a))
				}
			}
		}
		all = longer
	}
	return all
}

// P14.1: Sum, for all words of pairs of codes that are small.
func TestSumByHand(t *testing.T) {
	forSmallPairs(t, func(l lab, a, b api.Code) {
		var words [][]int
		for _, u := range l.words(a) {
			for _, v := range l.words(b) {
				words = append(words, slices.Concat(u, v))
			}
		}
		got, err := modify.Sum(a, b)
		check(t, "Sum", got, err, l.of(a.N+b.N, words))
	})
}

// P14.1: Double, for all words of pairs of codes that are small.
func TestDoubleByHand(t *testing.T) {
	forSmallPairs(t, func(l lab, a, b api.Code) {
		got, err := modify.Double(a, b)
		if a.N != b.N {
			checkRefused(t, "Double", got, err, api.ErrArg)
			return
		}
		var words [][]int
		for _, u := range l.words(a) {
			for _, v := range l.words(b) {
				words = append(words, slices.Concat(u, l.plus(u, v)))
			}
		}
		check(t, "Double", got, err, l.of(2*a.N, words))
	})
}

// replaced returns a word over 4 elements, with each element replaced by a word
// of the binary code inner.
func replaced(w []int, inner api.Code) []int {
	var longer []int
	for _, a := range w {
		for j := range inner.N {
			longer = append(longer, (a%2*inner.G[0][j]+a/2*inner.G[1][j])%2)
		}
	}
	return longer
}

// P14.1, P14.6: Concat, for all words of codes that are small.
func TestConcatByHand(t *testing.T) {
	four, two := newLab(t, 4), newLab(t, 2)
	inners := 0
	for _, inner := range two.codes(4) {
		for _, outer := range four.codes(3) {
			got, err := modify.Concat(outer, inner)
			if len(inner.G) != 2 {
				checkRefused(t, "Concat", got, err, api.ErrArg)
				continue
			}
			inners++
			var words [][]int
			for _, w := range four.words(outer) {
				words = append(words, replaced(w, inner))
			}
			check(t, "Concat", got, err, two.of(outer.N*inner.N, words))
		}
	}
	// There are 1, 7 and 35 inner ones, and 2, 7 and 44 outer ones.
	if inners != 43*53 {
		t.Errorf("%d pairs of codes", inners)
	}
}

// cyclic returns the binary code whose rows are the coefficients of a
// polynomial, moved to the right, in reduced echelon form.
func cyclic(t *testing.T, n, k int, coefficients ...int) api.Code {
	t.Helper()
	rows := make([][]int, k)
	for i := range rows {
		rows[i] = make([]int, n)
		copy(rows[i][i:], coefficients)
	}
	c, err := code.Make(2, n, rows)
	if err != api.OK {
		t.Fatalf("no cyclic code of %v: error %d", coefficients, err)
	}
	return c
}

// checkWeights fails the test unless a code has such numbers of words of all
// weights.
func checkWeights(t *testing.T, what string, c api.Code, err api.Errno, want []int) {
	t.Helper()
	counts, errWeights := code.Weights(c)
	if err != api.OK || errWeights != api.OK || !slices.Equal(counts, want) {
		t.Errorf("%s: errors %d and %d, weights %v, not %v", what, err, errWeights, counts, want)
	}
}

// P14.1: known codes, with their weights.
func TestKnownCodes(t *testing.T) {
	hamming := cyclic(t, 7, 4, 1, 1, 0, 1)
	c, err := modify.Extend(hamming)
	checkWeights(t, "Hamming's code, extended", c, err, []int{1, 4: 14, 8: 1})
	c, err = modify.Even(hamming)
	checkWeights(t, "Hamming's code, words of even weight", c, err, []int{1, 4: 7, 7: 0})
	c, err = modify.Shorten(hamming, 3)
	checkWeights(t, "Hamming's code, shortened", c, err, []int{1, 3: 4, 4: 3, 6: 0})
	c, err = modify.Puncture(hamming, 3)
	checkWeights(t, "Hamming's code, punctured", c, err, []int{1, 2: 3, 3: 8, 4: 3, 6: 1})

	golay := cyclic(t, 23, 12, 1, 0, 1, 0, 1, 1, 1, 0, 0, 0, 1, 1)
	large, err := modify.Extend(golay)
	checkWeights(t, "Golay's code, extended", large, err, []int{1, 8: 759, 12: 2576, 16: 759, 24: 1})
	c, err = modify.Shorten(large, 23)
	checkWeights(t, "Golay's code, extended and shortened", c, err, []int{1, 8: 506, 12: 1288, 16: 253, 23: 0})
	again, err := modify.Even(golay)
	check(t, "Golay's code, words of even weight", again, err, c)

	hexacode := api.Code{Q: 4, N: 6, G: [][]int{{1, 0, 0, 1, 3, 2}, {0, 1, 0, 1, 2, 3}, {0, 0, 1, 1, 1, 1}}}
	c, err = modify.Concat(hexacode, binary(3, []int{1, 0, 1}, []int{0, 1, 1}))
	checkWeights(t, "the hexacode in words of even weight", c, err, []int{1, 8: 45, 12: 18, 18: 0})

	evens, err := modify.Even(everything(2, 4))
	checkWeights(t, "words of even weight", evens, err, []int{1, 0, 6, 0, 1})
	c, err = modify.Double(evens, binary(4, ones(4)))
	checkWeights(t, "Reed's and Muller's code", c, err, []int{1, 4: 14, 8: 1})
	c, err = modify.Sum(evens, evens)
	checkWeights(t, "words of even weight, twice", c, err, []int{1, 0, 12, 0, 38, 0, 12, 0, 1})
}

// P14.1: coordinates that there are not, and codes with one alone.
func TestNoCoordinates(t *testing.T) {
	forLengths(t, func(l lab, c api.Code) {
		for _, i := range append(slices.Clone(extremes), c.N, c.N+1, -c.N) {
			if c.N > 1 && i >= 0 && i < c.N {
				continue
			}
			got, err := modify.Puncture(c, i)
			checkRefused(l.T, "Puncture", got, err, api.ErrArg)
			got, err = modify.Shorten(c, i)
			checkRefused(l.T, "Shorten", got, err, api.ErrArg)
		}
	})
}

// P14.1: extended codes of the greatest length, and those that would be longer.
func TestLongestExtended(t *testing.T) {
	for _, q := range sizes {
		l := newLab(t, q)
		for k := range 25 {
			got, err := modify.Extend(l.code(24, k))
			checkRefused(t, "Extend", got, err, api.ErrBig)
			if k < 24 {
				l.good(q, 24)(modify.Extend(l.code(23, k)))
			}
		}
	}
}

// P14.1: Sum and Double, for all pairs of lengths, over one field or two.
func TestLengthsOfTwo(t *testing.T) {
	for i, q := range sizes {
		l, other := newLab(t, q), newLab(t, sizes[(i+1)%len(sizes)])
		for n := 1; n <= 24; n++ {
			for m := 1; m <= 24; m++ {
				a, b := l.any(n), l.any(m)
				c, err := modify.Sum(a, b)
				d, errDouble := modify.Double(a, b)
				if n+m > 24 {
					checkRefused(t, "Sum", c, err, api.ErrBig)
				} else {
					l.good(q, n+m)(c, err)
				}
				switch {
				case n != m:
					checkRefused(t, "Double", d, errDouble, api.ErrArg)
				case n > 12:
					checkRefused(t, "Double", d, errDouble, api.ErrBig)
				default:
					l.good(q, 2*n)(d, errDouble)
				}
				// Also if both would be too long together.
				c, err = modify.Sum(a, other.any(m))
				checkRefused(t, "Sum over two fields", c, err, api.ErrArg)
				d, err = modify.Double(a, other.any(n))
				checkRefused(t, "Double over two fields", d, err, api.ErrArg)
			}
		}
	}
}

// P14.1: Concat, for all pairs of fields, lengths and dimensions, as far as
// there are such codes.
func TestShapesOfConcat(t *testing.T) {
	for _, q := range sizes {
		l := newLab(t, q)
		for _, p := range sizes {
			inside := newLab(t, p)
			for _, n := range []int{1, 2, 3, 8, 9, 12, 13, 24} {
				for _, m := range []int{1, 2, 3, 8, 9, 12, 13, 24} {
					for k := range min(m, 4) + 1 {
						c, err := modify.Concat(l.any(n), inside.code(m, k))
						switch {
						case q != 4 || p != 2 || k != 2:
							checkRefused(t, "Concat", c, err, api.ErrArg)
						case n*m > 24:
							checkRefused(t, "Concat", c, err, api.ErrBig)
						default:
							l.good(2, n*m)(c, err)
						}
					}
				}
			}
		}
	}
}

// P14.1: Even refuses all codes that are not binary.
func TestEvenIsBinary(t *testing.T) {
	forCodes(t, func(l lab, c api.Code) {
		got, err := modify.Even(c)
		if l.q == 2 {
			l.good(2, c.N)(got, err)
		} else {
			checkRefused(l.T, "Even", got, err, api.ErrArg)
		}
	})
}

// P14.1: lists that are no permutations of the coordinates, of each length.
func TestNoPermutations(t *testing.T) {
	forLengths(t, func(l lab, c api.Code) {
		g := l.source.Perm(c.N)
		refused := [][]int{g[1:], append(slices.Clone(g), c.N), append(slices.Clone(g), 0), append(slices.Clone(g), g...), extremes}
		i := l.source.Intn(c.N)
		for _, a := range append(slices.Clone(extremes), -c.N, c.N, c.N+1, g[(i+1)%c.N], g[i]-64, g[i]+math.MinInt) {
			changed := slices.Clone(g)
			changed[i] = a
			if a != g[i] {
				refused = append(refused, changed)
			}
		}
		for _, list := range refused {
			if len(list) == c.N && isPermutation(list) {
				l.Fatalf("a permutation: %v", list)
			}
			got, err := modify.Turn(c, list)
			checkRefused(l.T, "Turn", got, err, api.ErrArg)
		}
		l.good(l.q, c.N)(modify.Turn(c, g))
	})
}
