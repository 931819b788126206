package code_test

import (
	"math"
	"slices"
	"testing"

	"plexus/api"
	"plexus/code"
)

// arguments are those of all functions.
type arguments struct {
	q, n int
	rows [][]int
	c    api.Code
	list []int
}

// call is what all functions return for the same arguments.
type call struct {
	codes   []api.Code
	lists   [][]int
	words   [][]int
	numbers []int
	errs    []api.Errno
	valid   bool
}

func callAll(x arguments) call {
	made, errMake := code.Make(x.q, x.n, x.rows)
	words, errWords := code.Words(x.c)
	word, errEncode := code.Encode(x.c, x.list)
	msg, errMessage := code.Message(x.c, x.list)
	s, errSyndrome := code.Syndrome(x.c, x.list)
	distance, errDistance := code.Distance(x.c)
	weights, errWeights := code.Weights(x.c)
	return call{
		codes:   []api.Code{made, code.Dual(x.c)},
		lists:   [][]int{word, msg, s, weights},
		words:   words,
		numbers: []int{code.Dim(x.c), code.Count(x.c), distance},
		errs:    []api.Errno{errMake, errWords, errEncode, errMessage, errSyndrome, errDistance, errWeights},
		valid:   code.Valid(x.c),
	}
}

// all returns all lists of a call.
func (c call) all() [][]int {
	return slices.Concat(c.codes[0].G, c.codes[1].G, c.lists, c.words)
}

func (c call) equal(d call) bool {
	return slices.EqualFunc(c.codes, d.codes, same) && sameLists(c.lists, d.lists) && sameLists(c.words, d.words) &&
		slices.Equal(c.numbers, d.numbers) && slices.Equal(c.errs, d.errs) && c.valid == d.valid
}

// spoil writes to all lists of a call, also behind their ends, one after the
// other, and reports whether what is still to come stays as it is.
func (c call) spoil(want call) bool {
	kept, wants := true, want.all()
	for i, list := range c.all() {
		kept = kept && slices.Equal(list, wants[i])
		list = list[:cap(list)]
		for j := range list {
			list[j] = -1
		}
	}
	for _, rows := range [][][]int{c.codes[0].G, c.codes[1].G, c.words} {
		clear(rows[:cap(rows)])
	}
	return kept
}

// roomy returns a copy of l with room behind it, which has to stay as it is.
func roomy[T any](l []T, room ...T) []T { return append(slices.Clone(l), room...)[:len(l)] }

func roomyRows(rows [][]int) [][]int {
	var l [][]int
	for _, row := range rows {
		l = append(l, roomy(row, 1, 0, 1))
	}
	return roomy(l, []int{1}, nil)
}

// whole returns a copy of rows, with what is behind them.
func whole(rows [][]int) [][]int {
	var l [][]int
	for _, row := range rows[:cap(rows)] {
		l = append(l, slices.Clone(row[:cap(row)]))
	}
	return l
}

// M11, and results of memory of their own.
func TestMemoryIsNotShared(t *testing.T) {
	forFew(t, 64, func(l lab, c api.Code, _ int) {
		word := l.sum(c.N, c.G, l.drawn(len(c.G)))
		for _, rows := range [][][]int{c.G, l.mixed(c.N, c.G)} {
			for _, list := range [][]int{word, l.drawn(c.N), l.drawn(len(c.G))} {
				x := arguments{q: c.Q, n: c.N, rows: roomyRows(rows), list: roomy(list, 1, 0)}
				x.c = api.Code{Q: c.Q, N: c.N, G: roomyRows(c.G)}
				before := [][][]int{whole(x.rows), whole(x.c.G), whole([][]int{x.list})}
				want := callAll(x)
				if !callAll(x).spoil(want) {
					l.Errorf("results for %v share memory", x)
				}
				if after := [][][]int{whole(x.rows), whole(x.c.G), whole([][]int{x.list})}; !slices.EqualFunc(after, before, sameLists) {
					l.Errorf("arguments were modified: %v", x)
				}
				if !callAll(x).equal(want) {
					l.Errorf("results for %v have changed", x)
				}
			}
		}
	})
}

// notCodes returns what is no valid code: with fields and lengths that there are
// not, and with rows that are not reduced, or no rows at all.
func notCodes() []api.Code {
	rows := [][][]int{
		nil, {nil}, {{}, {}}, {{0}}, {{2}}, {{1}, {1}}, {{1, 0}, {1}}, {{1, 0}, nil}, {{0, 1}, {1, 0}}, {{1, 1}, {0, 1}}, {{1, -1}}, {{1, 0}, {0, 77}}, {{0, 0}, {0, 1}},
		{extremes}, {extremes, extremes}, identity(25), slices.Repeat(identity(24), 3), make([][]int, 300), {make([]int, 300)}, {{1, math.MinInt}, {0, 1}}, {{1, math.MaxInt, 0}},
	}
	for n := range 24 {
		rows = append(rows, identity(n+1))
	}
	var l []api.Code
	for _, g := range rows {
		for _, q := range extremes {
			l = append(l, api.Code{Q: q, N: 24, G: g}, api.Code{Q: q, N: q, G: g}, api.Code{Q: 2, N: q, G: g})
			if len(g) > 0 {
				l = append(l, api.Code{Q: q, N: len(g[0]), G: g})
			}
		}
	}
	return slices.DeleteFunc(l, code.Valid)
}

// P1: nothing panics or runs on, whatever the arguments are, and what is refused
// has zero values.
func TestNothingPanics(t *testing.T) {
	lists := [][]int{nil, {0}, {1}, {2}, {1, 1}, extremes, make([]int, 24), make([]int, 25), {-1, 0}, {1, 16, 3}, make([]int, 300), {math.MinInt, math.MaxInt}}
	for i, c := range notCodes() {
		got := callAll(arguments{q: c.Q, n: c.N, rows: c.G, c: c, list: lists[i%len(lists)]})
		if got.errs[0] != api.OK && !same(got.codes[0], api.Code{}) {
			t.Errorf("error %d for %v, and a code: %v", got.errs[0], c, got.codes[0])
		}
		// The document leaves open what the results of the other functions are;
		// the package says it.
		zero := call{codes: []api.Code{got.codes[0], {}}, lists: make([][]int, 4), numbers: make([]int, 3)}
		zero.errs = append(zero.errs, got.errs[0], api.ErrArg, api.ErrArg, api.ErrArg, api.ErrArg, api.ErrArg, api.ErrArg)
		if !got.equal(zero) {
			t.Errorf("results for %v, which is not valid: %v", c, got)
		}
	}
}

// P1: lists of all kinds, for codes of all fields and lengths.
func TestNoListPanics(t *testing.T) {
	forFew(t, 16, func(l lab, c api.Code, _ int) {
		for _, list := range append(others(l, c.N), nil, extremes, l.drawn(c.N), l.drawn(len(c.G))) {
			got := callAll(arguments{q: c.Q, n: c.N, rows: [][]int{list}, c: c, list: list})
			for i, err := range got.errs[2:5] {
				if err != api.OK && len(got.lists[i]) != 0 {
					l.Errorf("error %d for %v of %v, and a list: %v", err, list, c, got.lists[i])
				}
			}
		}
	})
}
