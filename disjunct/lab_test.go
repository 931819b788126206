package disjunct_test

import (
	"math"
	"math/bits"
	"math/rand"
	"slices"
	"testing"

	"plexus/api"
	"plexus/disjunct"
)

// extremes are numbers at and beyond limits.
var extremes = []int{math.MinInt, math.MinInt + 1, -64, -1, 0, 1, 2, 3, 4, 11, 12, 13, 16, 17, 24, 25, 63, 64, 65, 1 << 32, 1<<32 + 2, math.MaxInt}

// pool returns a pool for no faulty items and no false results.
func pool(items int, tests ...uint64) api.Pool {
	return api.Pool{Items: items, T: slices.Sorted(slices.Values(tests))}
}

// with returns p for other numbers of faulty items and of false results.
func with(p api.Pool, d, e int) api.Pool {
	p.D, p.E = d, e
	return p
}

// fits returns p for all numbers of faulty items and of false results that it
// may have.
func fits(p api.Pool) []api.Pool {
	var l []api.Pool
	for d := 0; d <= 3 && d <= p.Items; d++ {
		for e := range 4 {
			l = append(l, with(p, d, e))
		}
	}
	return l
}

// isRightByHand says whether p is right.
func isRightByHand(p api.Pool) bool {
	if !slices.Contains(numbers(1, 12), p.Items) || !slices.Contains(numbers(0, 3), p.D) || !slices.Contains(numbers(0, 3), p.E) {
		return false
	}
	if p.D > p.Items || len(p.T) >= 25 || !slices.IsSorted(p.T) {
		return false
	}
	return !slices.ContainsFunc(p.T, func(t uint64) bool { return bits.Len64(t) > p.Items })
}

// numbers returns the numbers from first to last.
func numbers(first, last int) []int {
	var l []int
	for n := first; n <= last; n++ {
		l = append(l, n)
	}
	return l
}

// fewOf returns all sets of at most d of n items.
func fewOf(n, d int) []uint64 {
	var l []uint64
	for s := range uint64(1) << n {
		if bits.OnesCount64(s) <= d {
			l = append(l, s)
		}
	}
	return l
}

// haveItem says for each test of p whether it has an item of s, item by item.
func haveItem(p api.Pool, s uint64) []bool {
	l := make([]bool, len(p.T))
	for i := range p.Items {
		for j, t := range p.T {
			if s&(1<<i) != 0 && t&(1<<i) != 0 {
				l[j] = true
			}
		}
	}
	return l
}

// slackByHand returns the slack of p.
func slackByHand(p api.Pool) int {
	slack := math.MaxInt
	for _, s := range fewOf(p.Items, p.D) {
		others := haveItem(p, s)
		for i := range p.Items {
			if s&(1<<i) != 0 {
				continue
			}
			n := 0
			for j, is := range haveItem(p, 1<<i) {
				if is && !others[j] {
					n++
				}
			}
			slack = min(slack, n)
		}
	}
	return slack
}

// bestByHand returns the greatest D with which p is disjunct, or -1.
func bestByHand(p api.Pool) int {
	for d := min(3, p.Items); d >= 0; d-- {
		if slackByHand(with(p, d, p.E)) > 2*p.E {
			return d
		}
	}
	return -1
}

// apartByHand returns in how many results at least two sets differ.
func apartByHand(p api.Pool) int {
	if p.D == 0 {
		return len(p.T) + 1
	}
	apart := math.MaxInt
	var results [][]bool
	for _, s := range fewOf(p.Items, p.D) {
		a := haveItem(p, s)
		for _, b := range results {
			n := 0
			for j := range a {
				if a[j] != b[j] {
					n++
				}
			}
			apart = min(apart, n)
		}
		results = append(results, a)
	}
	return apart
}

// small returns all pools with few items and tests.
func small() []api.Pool {
	var l []api.Pool
	for _, shape := range [][2]int{{1, 8}, {2, 5}, {3, 4}, {4, 3}} {
		items, most := shape[0], shape[1]
		lists := [][]uint64{nil}
		for i := 0; i < len(lists); i++ {
			tests := lists[i]
			l = append(l, pool(items, tests...))
			for t := range uint64(1) << items {
				if len(tests) < most && (len(tests) == 0 || tests[len(tests)-1] <= t) {
					lists = append(lists, append(slices.Clone(tests), t))
				}
			}
		}
	}
	return l
}

// measured is a pool with its slacks for the numbers of faulty items from 0 on.
type measured struct {
	p      api.Pool
	slacks []int
}

// translates returns the sets of v numbers to which those of s are moved modulo
// v.
func translates(v int, s ...int) []uint64 {
	var l []uint64
	for shift := range v {
		var t uint64
		for _, n := range s {
			t |= 1 << ((n + shift) % v)
		}
		l = append(l, t)
	}
	return l
}

// edges returns all sets of two of n items.
func edges(n int) []uint64 {
	return slices.DeleteFunc(fewOf(n, 2), func(s uint64) bool { return bits.OnesCount64(s) < 2 })
}

// singles returns n items, each in so many tests that have no other one.
func singles(n, times int) api.Pool {
	var l []uint64
	for i := range n {
		for range times {
			l = append(l, 1<<i)
		}
	}
	return pool(n, l...)
}

// affine returns the 12 lines of the plane with 9 points, which has the points
// 0 to 2 in its first row, 3 to 5 in the next one, and 6 to 8 in the last one.
func affine() []uint64 {
	rows := []uint64{0b111, 0b111000, 0b111000000}
	columns := []uint64{0b1001001, 0b10010010, 0b100100100}
	falling := []uint64{0b100010001, 0b1100010, 0b10001100}
	rising := []uint64{0b1010100, 0b10100001, 0b100001010}
	return slices.Concat(rows, columns, falling, rising)
}

// known returns pools of which the slacks are known.
func known() []measured {
	plane := translates(7, 0, 1, 3)
	return []measured{
		{pool(7, plane...), []int{3, 2, 1, 0}},
		{pool(7, slices.Repeat(plane, 2)...), []int{6, 4, 2, 0}},
		{pool(7, slices.Repeat(plane, 3)...), []int{9, 6, 3, 0}},
		{pool(9, affine()...), []int{4, 3, 2, 1}},
		{pool(9, slices.Repeat(affine(), 2)...), []int{8, 6, 4, 2}},
		{pool(11, translates(11, 1, 3, 4, 5, 9)...), []int{5, 3, 1, 0}},
		{pool(12, translates(12, 0)...), []int{1, 1, 1, 1}},
		{singles(12, 2), []int{2, 2, 2, 2}},
		{singles(8, 3), []int{3, 3, 3, 3}},
		{singles(4, 5), []int{5, 5, 5, 5}},
		{singles(3, 7), []int{7, 7, 7, 7}},
		{singles(2, 12), []int{12, 12, 12}},
		{singles(1, 24), []int{24, 24}},
		{pool(4, edges(4)...), []int{3, 2, 1, 0}},
		{pool(5, edges(5)...), []int{4, 3, 2, 1}},
		{pool(6, edges(6)...), []int{5, 4, 3, 2}},
		{pool(7, edges(7)...), []int{6, 5, 4, 3}},
		// The complements of single items: two others have all tests of an item.
		{pool(3, 3, 5, 6), []int{2, 1, 0, 0}},
		{pool(2, 1, 3), []int{1, 0, 0}},
		{pool(12, 0, 0, 0), []int{0, 0, 0, 0}},
		{pool(12, slices.Repeat([]uint64{1<<12 - 1}, 24)...), []int{24, 0, 0, 0}},
		{pool(1), []int{0, 0}},
	}
}

// drawn returns a pool in whose tests an item is once in so many times.
func drawn(source *rand.Rand, items, tests, times int) api.Pool {
	l := make([]uint64, tests)
	for j := range l {
		for i := range items {
			if source.Intn(times) == 0 {
				l[j] |= 1 << i
			}
		}
	}
	return pool(items, l...)
}

// samples returns pools of all numbers of items and of tests, the same ones in
// each run.
func samples() []api.Pool {
	var l []api.Pool
	for _, m := range known() {
		l = append(l, m.p)
	}
	source := rand.New(rand.NewSource(12))
	for items := 1; items <= 12; items++ {
		for tests := 0; tests <= 24; tests++ {
			l = append(l, drawn(source, items, tests, 2+source.Intn(5)))
		}
	}
	return l
}

func same(p, q api.Pool) bool {
	return p.Items == q.Items && p.D == q.D && p.E == q.E && slices.Equal(p.T, q.T)
}

// check fails the test unless a pool is want, without an error.
func check(t *testing.T, what string, got api.Pool, err api.Errno, want api.Pool) {
	t.Helper()
	if !same(got, want) || err != api.OK {
		t.Errorf("%s: %v, error %d, not %v", what, got, err, want)
	}
}

// checkRefused fails the test unless there is no pool, and the error is want.
func checkRefused(t *testing.T, what string, got api.Pool, err, want api.Errno) {
	t.Helper()
	if !same(got, api.Pool{}) || err != want {
		t.Errorf("%s: %v, error %d, not %d", what, got, err, want)
	}
}

// words returns words whose symbols are those of a few, so many of a length.
func words(source *rand.Rand, count, length int, symbols ...int) [][]int {
	l := make([][]int, count)
	for i := range l {
		for range length {
			l[i] = append(l[i], symbols[source.Intn(len(symbols))])
		}
	}
	return l
}

// lines returns words of the values of a x + b modulo the prime q at so many x,
// the first ones of all.
func lines(q, count, length int) [][]int {
	var l [][]int
	for i := range count {
		var w []int
		for x := range length {
			w = append(w, (i/q*x+i)%q)
		}
		l = append(l, w)
	}
	return l
}

// differ returns in how many coordinates two words differ.
func differ(a, b []int) int {
	n := 0
	for k := range a {
		if a[k] != b[k] {
			n++
		}
	}
	return n
}

// lists returns lists of words of one length, with 2 to 12 words, from which
// pools are made.
func lists() [][][]int {
	source := rand.New(rand.NewSource(13))
	l := [][][]int{lines(2, 4, 2), lines(3, 9, 3), lines(5, 12, 4), lines(7, 7, 3), lines(11, 12, 2), make([][]int, 2), make([][]int, 12)}
	for count := 2; count <= 12; count++ {
		for range 20 {
			l = append(l,
				words(source, count, 1+source.Intn(2), numbers(1, 12)...),
				words(source, count, 1+source.Intn(6), -3, 1<<40, 0, 7),
				words(source, count, 1+source.Intn(8), math.MinInt, math.MaxInt, -1),
				words(source, count, 1+source.Intn(12), 1, 0),
				words(source, count, 1+source.Intn(24), -5),
			)
		}
	}
	return l
}

// must returns the pool of words, and fails the test if there is an error.
func must(t *testing.T, l [][]int, d, e int) api.Pool {
	t.Helper()
	p, err := disjunct.FromWords(l, d, e)
	if err != api.OK {
		t.Fatalf("no pool of %v: error %d", l, err)
	}
	return p
}
