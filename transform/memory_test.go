package transform_test

import (
	"math"
	"math/rand"
	"slices"
	"testing"

	"plexus/api"
	"plexus/transform"
)

// arguments are those of the functions with lists.
type arguments struct {
	q, n  int
	w     []int
	words [][]int
	d     []api.Frac
}

// call is what these functions return for the same arguments.
type call struct {
	turned            []int
	distances, fracts []api.Frac
	errs              [3]api.Errno
}

func callAll(x arguments) call {
	var c call
	c.turned, c.errs[0] = transform.Turn(x.q, x.n, x.w)
	c.distances, c.errs[1] = transform.Distribution(x.q, x.n, x.words)
	c.fracts, c.errs[2] = transform.Turned(x.q, x.n, x.d)
	return c
}

func (c call) equal(d call) bool {
	return slices.Equal(c.turned, d.turned) && slices.Equal(c.distances, d.distances) && slices.Equal(c.fracts, d.fracts) && c.errs == d.errs
}

// spoil writes to all lists of a call, also behind their ends.
func (c call) spoil() {
	for i := range c.turned[:cap(c.turned)] {
		c.turned[:cap(c.turned)][i] = -1
	}
	clear(c.distances[:cap(c.distances)])
	clear(c.fracts[:cap(c.fracts)])
}

// roomy returns a copy of l with room behind it, which has to stay as it is.
func roomy[T any](l []T, room ...T) []T { return append(slices.Clone(l), room...)[:len(l)] }

// copied returns a copy of arguments, with what is behind them.
func copied(x arguments) arguments {
	x.w, x.d = slices.Clone(x.w[:cap(x.w)]), slices.Clone(x.d[:cap(x.d)])
	var words [][]int
	for _, w := range x.words[:cap(x.words)] {
		words = append(words, slices.Clone(w[:cap(w)]))
	}
	x.words = words
	return x
}

func sameArguments(x, y arguments) bool {
	return slices.Equal(x.w, y.w) && slices.Equal(x.d, y.d) && slices.EqualFunc(x.words, y.words, slices.Equal[[]int])
}

// O4, and results of memory of their own.
func TestMemoryIsNotShared(t *testing.T) {
	source, whole := rand.New(rand.NewSource(6)), 0
	for _, l := range drawnLists() {
		x := arguments{q: l.q, n: l.n, d: roomy(distancesByHand(l.n, l.words), frac(1, 2), api.Frac{})}
		x.w = []int{1}
		if isUpTo(l.q, l.n, 30) {
			x.w = drawnParts(source, l.q, l.n).weights
		}
		x.w = roomy(x.w, 7, -1)
		for _, w := range l.words {
			x.words = append(x.words, roomy(w, 1, -1, 0))
		}
		x.words = roomy(x.words, []int{1}, nil)
		before, want := copied(x), callAll(x)
		callAll(x).spoil()
		if !sameArguments(copied(x), before) {
			t.Errorf("arguments were modified: %v", x)
		}
		if !callAll(x).equal(want) {
			t.Errorf("results for %v have changed", x)
		}
		if want.errs == [3]api.Errno{} {
			whole++
		}
	}
	if whole < 500 {
		t.Errorf("only %d calls of all functions without errors", whole)
	}
}

// P1: nothing panics or runs on, whatever the arguments are, and what is refused
// has zero values.
func TestNothingPanics(t *testing.T) {
	lists := [][]int{nil, {}, {0}, {1}, {1, 0}, {1, 1, 1}, extremes, slices.Repeat([]int{math.MaxInt}, 25), slices.Repeat([]int{math.MinInt}, 25), slices.Repeat([]int{1 << 62}, 3), make([]int, 25), make([]int, 1<<16)}
	var fractions [][]api.Frac
	for _, l := range lists {
		for _, d := range []int{math.MinInt, -1, 0, 1, 2, 1 << 20, 1 << 62, math.MaxInt} {
			var row []api.Frac
			for _, n := range l {
				row = append(row, frac(n, d), frac(d, n))
			}
			fractions = append(fractions, row, row[:len(row)/2])
		}
	}
	words := [][][]int{nil, {}, {nil}, {nil, {0}}, {{0}, nil}, {nil, nil}, lists, slices.Repeat([][]int{nil}, 64), slices.Repeat([][]int{nil}, 65), slices.Repeat([][]int{extremes}, 64), slices.Repeat([][]int{make([]int, 24)}, 64)}
	at := 0
	for _, q := range extremes {
		for _, n := range extremes {
			for range 30 {
				at++
				x := arguments{q: q, n: n, w: lists[at%len(lists)], words: words[at%len(words)], d: fractions[at%len(fractions)]}
				c := callAll(x)
				if c.errs[0] != api.OK && len(c.turned) > 0 || c.errs[1] != api.OK && len(c.distances) > 0 || c.errs[2] != api.OK && len(c.fracts) > 0 {
					t.Errorf("errors %v for %v, and results: %v", c.errs, x, c)
				}
				if number, err := transform.Krawtchouk(q, n, at%30-2, at%29-2); err != api.OK && number != 0 {
					t.Errorf("error %d for Krawtchouk(%d, %d, %d, %d), and a number: %d", err, q, n, at%30-2, at%29-2, number)
				}
			}
		}
	}
}
