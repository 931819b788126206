package modify_test

import (
	"math"
	"math/rand"
	"slices"
	"testing"

	"plexus/api"
	"plexus/code"
	"plexus/field"
)

// sizes are the prime powers from 2 to 16.
var sizes = []int{2, 3, 4, 5, 7, 8, 9, 11, 13, 16}

// extremes are numbers at and beyond limits.
var extremes = []int{math.MinInt, math.MinInt + 1, -64, -1, 0, 1, 2, 3, 4, 12, 13, 16, 17, 23, 24, 25, 64, 65, 1 << 32, 1<<32 + 2, math.MaxInt}

// lab calculates with codes in another way than the package: by tables of the
// field, with all words of a code, or with codes that it has drawn.
type lab struct {
	*testing.T
	q        int
	add, mul [][]int
	source   *rand.Rand
}

func newLab(t *testing.T, q int) lab {
	t.Helper()
	f, err := field.Make(q)
	if err != api.OK {
		t.Fatalf("no field with %d elements: error %d", q, err)
	}
	l := lab{T: t, q: q, source: rand.New(rand.NewSource(int64(q)))}
	for a := range q {
		l.add, l.mul = append(l.add, make([]int, q)), append(l.mul, make([]int, q))
		for b := range q {
			l.add[a][b], l.mul[a][b] = field.Add(f, a, b), field.Mul(f, a, b)
		}
	}
	return l
}

// small are the fields for which all codes up to a length have few words, with
// this length.
var small = [][2]int{{2, 5}, {3, 3}, {4, 3}, {5, 2}, {7, 2}, {8, 2}, {9, 2}, {11, 1}, {13, 1}, {16, 2}}

// forSmall runs a test for all codes of these fields and lengths.
func forSmall(t *testing.T, test func(l lab, c api.Code)) {
	for _, shape := range small {
		l := newLab(t, shape[0])
		for _, c := range l.codes(shape[1]) {
			test(l, c)
		}
	}
}

// forSmallPairs runs a test for all pairs of codes of one of these fields, of
// which the lengths are a little less.
func forSmallPairs(t *testing.T, test func(l lab, a, b api.Code)) {
	for _, shape := range [][2]int{{2, 3}, {3, 2}, {4, 2}, {5, 2}, {7, 1}, {8, 1}, {9, 1}, {16, 1}} {
		l := newLab(t, shape[0])
		for _, a := range l.codes(shape[1]) {
			for _, b := range l.codes(shape[1]) {
				test(l, a, b)
			}
		}
	}
}

// forCodes runs a test for a drawn code of each dimension of each length over
// each field.
func forCodes(t *testing.T, test func(l lab, c api.Code)) {
	for _, q := range sizes {
		l := newLab(t, q)
		for n := 1; n <= api.MaxLength; n++ {
			for k := range n + 1 {
				test(l, l.code(n, k))
			}
		}
	}
}

// forLengths runs a test for a drawn code of each length over each field.
func forLengths(t *testing.T, test func(l lab, c api.Code)) {
	for _, q := range sizes {
		l := newLab(t, q)
		for n := 1; n <= api.MaxLength; n++ {
			test(l, l.any(n))
		}
	}
}

// forSums runs a test for a drawn code of each dimension of each length over
// each field, with another one that can stand behind it. Many of them have the
// greatest length together.
func forSums(t *testing.T, test func(l lab, a, b api.Code)) {
	forCodes(t, func(l lab, a api.Code) {
		if room := api.MaxLength - a.N; room > 0 {
			test(l, a, l.any(min(room, l.from(1, room+room/2))))
		}
	})
}

// forDoubles runs a test for such codes of lengths up to 12, each with two drawn
// ones of the same length, one after the other.
func forDoubles(t *testing.T, test func(l lab, a, b api.Code)) {
	forCodes(t, func(l lab, a api.Code) {
		if 2*a.N <= api.MaxLength {
			test(l, a, l.any(a.N))
			test(l, a, l.any(a.N))
		}
	})
}

// forConcats runs a test for drawn codes over 4 elements, of each dimension of
// each length, each with drawn ones of the dimension 2 over 2 elements that can
// be used inside. The lab is that of the outer code.
func forConcats(t *testing.T, test func(l lab, outer, inner api.Code)) {
	l, two := newLab(t, 4), newLab(t, 2)
	for n := 1; 2*n <= api.MaxLength; n++ {
		for k := range n + 1 {
			for m := 2; n*m <= api.MaxLength; m++ {
				test(l, l.code(n, k), two.code(m, 2))
			}
		}
	}
}

// power returns the number of words of a code of the dimension k.
func (l lab) power(k int) int { return int(math.Round(math.Pow(float64(l.q), float64(k)))) }

// areFew reports whether a code of the dimension k has at most 4096 words.
func (l lab) areFew(k int) bool {
	return math.Pow(float64(l.q), float64(k)) <= 4096
}

func (l lab) plus(v, w []int) []int {
	sum := slices.Clone(v)
	for i, a := range w {
		sum[i] = l.add[sum[i]][a]
	}
	return sum
}

func (l lab) times(factor int, w []int) []int {
	multiple := slices.Clone(w)
	for i, a := range w {
		multiple[i] = l.mul[factor][a]
	}
	return multiple
}

// total returns the sum of the elements of w.
func (l lab) total(w []int) int {
	sum := 0
	for _, a := range w {
		sum = l.add[sum][a]
	}
	return sum
}

// words returns the words of c, as they grow row by row.
func (l lab) words(c api.Code) [][]int {
	found := [][]int{make([]int, c.N)}
	for _, row := range c.G {
		var more [][]int
		for _, v := range found {
			for a := range l.q {
				more = append(more, l.plus(v, l.times(a, row)))
			}
		}
		found = more
	}
	return found
}

// of returns the code that has these words, all of which are there, and some of
// them several times: it picks the rows in reduced echelon form from them.
func (l lab) of(n int, words [][]int) api.Code {
	l.Helper()
	words = slices.Clone(words)
	slices.SortFunc(words, slices.Compare[[]int])
	words = slices.CompactFunc(words, slices.Equal[[]int])
	var places []int
	for _, w := range words {
		if p := pivot(w); p >= 0 && !slices.Contains(places, p) {
			places = append(places, p)
		}
	}
	slices.Sort(places)
	c := api.Code{Q: l.q, N: n}
	for _, p := range places {
		for _, w := range words {
			if pivot(w) == p && w[p] == 1 && zeroAt(w, places, p) {
				c.G = append(c.G, w)
			}
		}
	}
	if len(c.G) != len(places) || l.power(len(places)) != len(words) || !code.Valid(c) {
		l.Fatalf("%d elements: no words of a code: %v", l.q, words)
	}
	return c
}

// codes returns all codes of lengths up to n.
func (l lab) codes(n int) []api.Code {
	var list []api.Code
	for length := 1; length <= n; length++ {
		for set := range 1 << length {
			list = append(list, l.filled(length, set)...)
		}
	}
	return list
}

// filled returns all codes of length n whose rows have their first elements
// other than 0 at the places of a set.
func (l lab) filled(n, set int) []api.Code {
	list := []api.Code{{Q: l.q, N: n}}
	for p := n - 1; p >= 0; p-- {
		if set>>p&1 == 0 {
			continue
		}
		rows := [][]int{unit(n, p)}
		for j := p + 1; j < n; j++ {
			if set>>j&1 == 1 {
				continue
			}
			var more [][]int
			for _, row := range rows {
				for a := range l.q {
					more = append(more, l.plus(row, l.times(a, unit(n, j))))
				}
			}
			rows = more
		}
		var more []api.Code
		for _, c := range list {
			for _, row := range rows {
				more = append(more, api.Code{Q: l.q, N: n, G: append([][]int{row}, c.G...)})
			}
		}
		list = more
	}
	return list
}

// from returns a number from low to high.
func (l lab) from(low, high int) int { return low + l.source.Intn(high-low+1) }

// drawn returns a list of n elements. Many of them are 0, in some lists.
func (l lab) drawn(n int) []int {
	w := make([]int, n)
	dense := l.source.Intn(4)
	for i := range w {
		if l.source.Intn(4) <= dense {
			w[i] = l.source.Intn(l.q)
		}
	}
	return w
}

// any returns a drawn code of length n.
func (l lab) any(n int) api.Code { return l.code(n, l.from(0, n)) }

// code returns a drawn code of length n and the dimension k.
func (l lab) code(n, k int) api.Code {
	places := l.source.Perm(n)[:k]
	slices.Sort(places)
	c := api.Code{Q: l.q, N: n}
	for _, p := range places {
		row := l.drawn(n)
		clear(row[:p])
		for _, other := range places {
			row[other] = 0
		}
		row[p] = 1
		c.G = append(c.G, row)
	}
	return c
}

// word returns a drawn word of c.
func (l lab) word(c api.Code) []int {
	w := make([]int, c.N)
	for _, row := range c.G {
		w = l.plus(w, l.times(l.source.Intn(l.q), row))
	}
	return w
}

// spanning returns the rows of c, and some words more.
func (l lab) spanning(c api.Code) [][]int {
	return append(slices.Clone(c.G), l.word(c), l.word(c), l.word(c))
}

// good returns a function that returns the code of a call, and fails the test if
// it has an error or if the code is not valid, over so many elements and of such
// a length.
func (l lab) good(q, n int) func(c api.Code, err api.Errno) api.Code {
	l.Helper()
	return func(c api.Code, err api.Errno) api.Code {
		l.Helper()
		if err != api.OK || c.Q != q || c.N != n || !code.Valid(c) {
			l.Fatalf("no code of length %d over %d elements: %v, error %d", n, q, c, err)
		}
		return c
	}
}

// has reports whether w is a word of c.
func has(c api.Code, w []int) bool {
	_, err := code.Message(c, w)
	return err == api.OK
}

// unit returns the word that is 1 at the coordinate i alone.
func unit(n, i int) []int {
	w := make([]int, n)
	w[i] = 1
	return w
}

// ones returns the word that is 1 everywhere.
func ones(n int) []int { return slices.Repeat([]int{1}, n) }

// everything returns the code of all words of length n.
func everything(q, n int) api.Code {
	c := api.Code{Q: q, N: n}
	for i := range n {
		c.G = append(c.G, unit(n, i))
	}
	return c
}

// pivot returns the first place at which w is not 0, and -1 for 0.
func pivot(w []int) int { return slices.IndexFunc(w, func(a int) bool { return a != 0 }) }

// zeroAt reports whether w is 0 at all of the places but one.
func zeroAt(w, places []int, but int) bool {
	return !slices.ContainsFunc(places, func(i int) bool { return i != but && w[i] != 0 })
}

// weight returns the number of elements of w other than 0.
func weight(w []int) int {
	n := 0
	for _, a := range w {
		if a != 0 {
			n++
		}
	}
	return n
}

func sameLists(a, b [][]int) bool { return slices.EqualFunc(a, b, slices.Equal[[]int]) }

func same(c, d api.Code) bool { return c.Q == d.Q && c.N == d.N && sameLists(c.G, d.G) }

// check fails the test unless a code is want, without an error.
func check(t *testing.T, what string, got api.Code, err api.Errno, want api.Code) {
	t.Helper()
	if !same(got, want) || err != api.OK {
		t.Errorf("%s: %v, error %d, not %v", what, got, err, want)
	}
}

// checkRefused fails the test unless there is no code, and the error is want.
func checkRefused(t *testing.T, what string, got api.Code, err, want api.Errno) {
	t.Helper()
	if !same(got, api.Code{}) || err != want {
		t.Errorf("%s: %v, error %d, not %d", what, got, err, want)
	}
}
