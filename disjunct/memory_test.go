package disjunct_test

import (
	"math"
	"slices"
	"testing"

	"plexus/api"
	"plexus/disjunct"
)

// arguments are those of all functions.
type arguments struct {
	p    api.Pool
	set  uint64
	x    api.Inc
	l    [][]int
	d, e int
}

// call is what all functions return for the same arguments.
type call struct {
	pools    []api.Pool
	errs     []api.Errno
	right    api.Errno
	numbers  []int
	is       bool
	positive uint64
}

func callAll(x arguments) call {
	ofInc, errInc := disjunct.FromInc(x.x, x.d, x.e)
	ofWords, errWords := disjunct.FromWords(x.l, x.d, x.e)
	return call{
		pools:    []api.Pool{ofInc, ofWords},
		errs:     []api.Errno{errInc, errWords},
		right:    disjunct.Right(x.p),
		numbers:  []int{disjunct.Slack(x.p), disjunct.Best(x.p), disjunct.Apart(x.p)},
		is:       disjunct.Disjunct(x.p),
		positive: disjunct.Positive(x.p, x.set),
	}
}

func (c call) equal(d call) bool {
	return slices.EqualFunc(c.pools, d.pools, same) && slices.Equal(c.errs, d.errs) && c.right == d.right &&
		slices.Equal(c.numbers, d.numbers) && c.is == d.is && c.positive == d.positive
}

// spoil writes to all tests, also behind their ends, one pool after the other,
// and reports whether what is still to come stays as it is.
func (c call) spoil(want call) bool {
	kept := true
	for i, p := range c.pools {
		kept = kept && same(p, want.pools[i])
		tests := p.T[:cap(p.T)]
		for j := range tests {
			tests[j] = math.MaxUint64
		}
	}
	return kept
}

// roomy returns a copy of l with room behind it, which has to stay as it is.
func roomy[T any](l []T, room ...T) []T { return append(slices.Clone(l), room...)[:len(l)] }

// wholes returns copies of all lists of the arguments, with what is behind them.
func (x arguments) wholes() ([][]uint64, [][]int) {
	sets := [][]uint64{slices.Clone(x.p.T[:cap(x.p.T)]), slices.Clone(x.x.B[:cap(x.x.B)])}
	var words [][]int
	for _, w := range x.l[:cap(x.l)] {
		words = append(words, slices.Clone(w[:cap(w)]))
	}
	return sets, words
}

// L4, and results of memory of their own.
func TestMemoryIsNotShared(t *testing.T) {
	pools, words := samples(), lists()
	for i, p := range pools {
		for d := 0; d <= min(3, p.Items); d++ {
			q := pools[(i+100)%len(pools)]
			x := arguments{p: with(p, d, i%4), set: uint64(i), d: d, e: i % 4}
			x.p.T = roomy(p.T, 1, 0, 7)
			x.x = api.Inc{V: q.Items, B: roomy(q.T, 1, 0, 7)}
			for _, w := range words[(i+d)%len(words)] {
				x.l = append(x.l, roomy(w, 0, 1, 0))
			}
			x.l = roomy(x.l, []int{0, 1}, nil)
			sets, symbols := x.wholes()
			want := callAll(x)
			if !callAll(x).spoil(want) {
				t.Errorf("results for %v share memory", x)
			}
			setsAfter, symbolsAfter := x.wholes()
			if !slices.EqualFunc(setsAfter, sets, slices.Equal[[]uint64]) || !slices.EqualFunc(symbolsAfter, symbols, slices.Equal[[]int]) {
				t.Errorf("arguments were modified: %v", x)
			}
			if !callAll(x).equal(want) {
				t.Errorf("results for %v have changed", x)
			}
		}
	}
}

// P1: nothing panics or runs on, whatever the arguments are, and what is refused
// has zero values.
func TestNothingPanics(t *testing.T) {
	words := [][][]int{nil, {}, {nil}, {nil, {0}}, {{0}, nil}, {extremes}, {extremes, extremes}, slices.Repeat([][]int{extremes}, 12), slices.Repeat([][]int{{1, 2}}, 300), {make([]int, 1000)}}
	var pools []api.Pool
	for items := range 18 {
		pools = append(pools, nearlyRight(items)...)
	}
	for _, n := range extremes {
		for _, tests := range [][]uint64{nil, {0}, {1, 0}, {math.MaxUint64}, make([]uint64, 24), make([]uint64, 300)} {
			pools = append(pools, api.Pool{Items: n, T: tests})
		}
	}
	for i, p := range pools {
		for j, d := range extremes {
			e := extremes[(i+j)%len(extremes)]
			x := arguments{p: with(p, d, e), set: uint64(e), x: api.Inc{V: p.Items, B: p.T}, l: words[(i+2*j)%len(words)], d: d, e: e}
			got := callAll(x)
			for k, err := range got.errs {
				if err != api.OK && !same(got.pools[k], api.Pool{}) {
					t.Errorf("error %d for %v, and a pool: %v", err, x, got.pools[k])
				}
			}
			// The document leaves open what these are; the package says it.
			if got.right != api.OK && (!slices.Equal(got.numbers, []int{0, -1, 0}) || got.is || got.positive != 0) {
				t.Errorf("slack, best number and distance of %v, which is not right: %v; disjunct: %t, positive: %b", x.p, got.numbers, got.is, got.positive)
			}
		}
	}
}
