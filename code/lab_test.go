package code_test

import (
	"math"
	"math/rand"
	"slices"
	"testing"

	"plexus/api"
	"plexus/code"
	"plexus/field"
)

// sizes are the prime powers from 2 to 16.
var sizes = []int{2, 3, 4, 5, 7, 8, 9, 11, 13, 16}

// extremes are numbers at and beyond limits.
var extremes = []int{math.MinInt, math.MinInt + 1, -64, -1, 0, 1, 2, 3, 4, 5, 6, 12, 15, 16, 17, 24, 25, 63, 64, 65, 4096, 4097, 1 << 32, 1<<32 + 2, math.MaxInt}

// lab calculates with words in another way than the package: by tables of the
// field, with all words of a row space, or with rows that it has mixed from
// reduced ones.
type lab struct {
	*testing.T
	q        int
	add, mul [][]int
	source   *rand.Rand
}

func newLab(t *testing.T, q int) lab {
	t.Helper()
	f, err := field.Make(q)
	if err != api.OK {
		t.Fatalf("no field with %d elements: error %d", q, err)
	}
	l := lab{T: t, q: q, source: rand.New(rand.NewSource(int64(q)))}
	for a := range q {
		l.add, l.mul = append(l.add, make([]int, q)), append(l.mul, make([]int, q))
		for b := range q {
			l.add[a][b], l.mul[a][b] = field.Add(f, a, b), field.Mul(f, a, b)
		}
	}
	return l
}

// forSmall runs a test for some fields and lengths with few words, and for all
// lists of so many of these words.
func forSmall(t *testing.T, test func(l lab, n int, rows [][]int)) {
	for _, shape := range [][3]int{{2, 1, 3}, {2, 2, 3}, {2, 3, 3}, {2, 4, 2}, {3, 1, 2}, {3, 2, 3}, {3, 3, 2}, {4, 1, 2}, {4, 2, 2}, {5, 2, 2}, {7, 1, 1}, {8, 2, 1}, {9, 2, 1}, {16, 2, 1}} {
		q, n, most := shape[0], shape[1], shape[2]
		l := newLab(t, q)
		all := l.span(n, identity(n))
		lists := [][][]int{nil}
		for i := 0; i < len(lists); i++ {
			test(l, n, lists[i])
			for _, w := range all {
				if len(lists[i]) < most {
					lists = append(lists, append(slices.Clone(lists[i]), w))
				}
			}
		}
	}
}

// forCodes runs a test for a drawn code of each dimension of each length over
// each field. It says how many words there are.
func forCodes(t *testing.T, test func(l lab, c api.Code, count int)) {
	for _, q := range sizes {
		l := newLab(t, q)
		for n := 1; n <= api.MaxLength; n++ {
			for k := range n + 1 {
				test(l, api.Code{Q: q, N: n, G: l.reduced(n, k)}, l.power(k))
			}
		}
	}
}

// forFew runs a test for those codes that have at most so many words.
func forFew(t *testing.T, most int, test func(l lab, c api.Code, count int)) {
	forCodes(t, func(l lab, c api.Code, count int) {
		if count <= most {
			test(l, c, count)
		}
	})
}

// power returns the number of messages of k elements, and 4097 if there are more
// than 4096.
func (l lab) power(k int) int {
	if p := math.Pow(float64(l.q), float64(k)); p <= 4096 {
		return int(math.Round(p))
	}
	return 4097
}

func (l lab) plus(v, w []int) []int {
	sum := slices.Clone(v)
	for i, a := range w {
		sum[i] = l.add[sum[i]][a]
	}
	return sum
}

func (l lab) times(factor int, w []int) []int {
	multiple := slices.Clone(w)
	for i, a := range w {
		multiple[i] = l.mul[factor][a]
	}
	return multiple
}

func (l lab) product(v, w []int) int {
	sum := 0
	for i, a := range v {
		sum = l.add[sum][l.mul[a][w[i]]]
	}
	return sum
}

// products returns the products of w with rows.
func (l lab) products(w []int, rows [][]int) []int {
	var list []int
	for _, row := range rows {
		list = append(list, l.product(w, row))
	}
	return list
}

// span returns the row space of rows, as it grows row by row.
func (l lab) span(n int, rows [][]int) [][]int {
	found := [][]int{make([]int, n)}
	for _, row := range rows {
		if contains(found, row) {
			continue
		}
		var more [][]int
		for _, v := range found {
			for a := range l.q {
				more = append(more, l.plus(v, l.times(a, row)))
			}
		}
		found = more
	}
	return found
}

// form returns the rows in reduced echelon form of a row space, which it picks
// from all words of it.
func (l lab) form(words [][]int) [][]int {
	l.Helper()
	var places []int
	for _, w := range words {
		if p := pivot(w); p >= 0 && !slices.Contains(places, p) {
			places = append(places, p)
		}
	}
	slices.Sort(places)
	var rows [][]int
	for _, p := range places {
		for _, w := range words {
			if pivot(w) == p && w[p] == 1 && zeroAt(w, places, p) {
				rows = append(rows, w)
			}
		}
	}
	if len(rows) != len(places) || l.power(len(rows)) != len(words) {
		l.Fatalf("%d elements: no row space: %v", l.q, words)
	}
	return rows
}

// message returns the message of k elements with the number i.
func (l lab) message(i, k int) []int {
	msg := make([]int, k)
	for j := range k {
		msg[k-1-j] = i % l.q
		i /= l.q
	}
	return msg
}

// sum returns the sum of multiples of rows.
func (l lab) sum(n int, rows [][]int, msg []int) []int {
	w := make([]int, n)
	for i, row := range rows {
		w = l.plus(w, l.times(msg[i], row))
	}
	return w
}

// drawn returns a list of n elements. Many of them are 0, in some lists.
func (l lab) drawn(n int) []int {
	w := make([]int, n)
	dense := l.source.Intn(4)
	for i := range w {
		if l.source.Intn(4) <= dense {
			w[i] = l.source.Intn(l.q)
		}
	}
	return w
}

// from returns a number from low to high.
func (l lab) from(low, high int) int { return low + l.source.Intn(high-low+1) }

// reduced returns k rows of n elements in reduced echelon form.
func (l lab) reduced(n, k int) [][]int {
	places := l.source.Perm(n)[:k]
	slices.Sort(places)
	var rows [][]int
	for _, p := range places {
		row := l.drawn(n)
		clear(row[:p])
		for _, other := range places {
			row[other] = 0
		}
		row[p] = 1
		rows = append(rows, row)
	}
	return rows
}

// mixed returns other rows with the row space of rows: as many, each with
// multiples of others added, and some sums more, in a drawn order.
func (l lab) mixed(n int, rows [][]int) [][]int {
	m := cloned(rows)
	for range 3 * len(m) {
		i, j := l.source.Intn(len(m)), l.source.Intn(len(m))
		if i == j {
			m[i] = l.times(l.from(1, l.q-1), m[i])
		} else {
			m[i] = l.plus(m[i], l.times(l.source.Intn(l.q), m[j]))
		}
	}
	for range l.source.Intn(4) {
		m = append(m, l.sum(n, rows, l.drawn(len(rows))))
	}
	l.source.Shuffle(len(m), func(i, j int) { m[i], m[j] = m[j], m[i] })
	return m
}

// of returns the code of rows, and fails the test if there is an error.
func (l lab) of(n int, rows [][]int) api.Code {
	l.Helper()
	c, err := code.Make(l.q, n, rows)
	if err != api.OK {
		l.Fatalf("no code of length %d over %d elements of %v: error %d", n, l.q, rows, err)
	}
	return c
}

// words returns the words of c, and fails the test if there is an error.
func (l lab) words(c api.Code) [][]int {
	l.Helper()
	words, err := code.Words(c)
	if err != api.OK {
		l.Fatalf("no words of %v: error %d", c, err)
	}
	return words
}

// pivot returns the first place at which w is not 0, and -1 for 0.
func pivot(w []int) int { return slices.IndexFunc(w, func(a int) bool { return a != 0 }) }

// zeroAt reports whether w is 0 at all of the places but one.
func zeroAt(w, places []int, but int) bool {
	return !slices.ContainsFunc(places, func(i int) bool { return i != but && w[i] != 0 })
}

func sameLists(a, b [][]int) bool { return slices.EqualFunc(a, b, slices.Equal[[]int]) }

func same(c, d api.Code) bool { return c.Q == d.Q && c.N == d.N && sameLists(c.G, d.G) }

func contains(words [][]int, w []int) bool {
	return slices.ContainsFunc(words, func(v []int) bool { return slices.Equal(v, w) })
}

func cloned(l [][]int) [][]int {
	var copies [][]int
	for _, w := range l {
		copies = append(copies, slices.Clone(w))
	}
	return copies
}

// identity returns n rows whose row space is all words of length n.
func identity(n int) [][]int {
	rows := make([][]int, n)
	for i := range rows {
		rows[i] = make([]int, n)
		rows[i][i] = 1
	}
	return rows
}

// differ returns the number of elements in which two words differ.
func differ(v, w []int) int {
	n := 0
	for i, a := range v {
		if a != w[i] {
			n++
		}
	}
	return n
}

// weights returns the numbers of words of all weights up to n.
func weights(n int, words [][]int) []int {
	counts := make([]int, n+1)
	for _, w := range words {
		counts[differ(w, make([]int, n))]++
	}
	return counts
}

// leastDistance returns the least number of elements in which two words differ.
func leastDistance(words [][]int) int {
	least := math.MaxInt
	for i, v := range words {
		for _, w := range words[:i] {
			least = min(least, differ(v, w))
		}
	}
	return least
}

// check fails the test unless a list is want, without an error.
func check(t *testing.T, what string, got []int, err api.Errno, want []int) {
	t.Helper()
	if !slices.Equal(got, want) || err != api.OK {
		t.Errorf("%s: %v, error %d, not %v", what, got, err, want)
	}
}

// checkRefused fails the test unless there is no list, and the error is want.
func checkRefused(t *testing.T, what string, got []int, err, want api.Errno) {
	t.Helper()
	if len(got) != 0 || err != want {
		t.Errorf("%s: %v, error %d, not %d", what, got, err, want)
	}
}
