package modify_test

import (
	"math"
	"slices"
	"testing"

	"plexus/api"
	"plexus/code"
	"plexus/modify"
)

// arguments are those of all functions.
type arguments struct {
	a, b api.Code
	i    int
	g    []int
}

// call is what all functions return for the same arguments.
type call struct {
	codes []api.Code
	errs  []api.Errno
}

func callAll(x arguments) call {
	var l call
	keep := func(c api.Code, err api.Errno) {
		l.codes, l.errs = append(l.codes, c), append(l.errs, err)
	}
	keep(modify.Sum(x.a, x.b))
	keep(modify.Double(x.a, x.b))
	keep(modify.Concat(x.a, x.b))
	keep(modify.Extend(x.a))
	keep(modify.Puncture(x.a, x.i))
	keep(modify.Shorten(x.a, x.i))
	keep(modify.Even(x.a))
	keep(modify.Turn(x.a, x.g))
	return l
}

// ofTwo is the number of results that depend on both codes; they come first.
const ofTwo = 3

// lists returns all lists of a call.
func (c call) lists() [][]int {
	var l [][]int
	for _, d := range c.codes {
		l = append(l, d.G...)
	}
	return l
}

func (c call) equal(d call) bool {
	return slices.EqualFunc(c.codes, d.codes, same) && slices.Equal(c.errs, d.errs)
}

// spoil writes to all lists of a call, also behind their ends, one after the
// other, and reports whether what is still to come stays as it is.
func (c call) spoil(want call) bool {
	kept, wants := true, want.lists()
	for i, list := range c.lists() {
		kept = kept && slices.Equal(list, wants[i])
		list = list[:cap(list)]
		for j := range list {
			list[j] = -1
		}
	}
	for _, d := range c.codes {
		clear(d.G[:cap(d.G)])
	}
	return kept
}

// roomy returns a copy of l with room behind it, which has to stay as it is.
func roomy[T any](l []T, room ...T) []T { return append(slices.Clone(l), room...)[:len(l)] }

func roomyCode(c api.Code) api.Code {
	var rows [][]int
	for _, row := range c.G {
		rows = append(rows, roomy(row, 1, 0, 1))
	}
	return api.Code{Q: c.Q, N: c.N, G: roomy(rows, []int{1}, nil)}
}

// whole returns a copy of arguments, with what is behind them.
func whole(x arguments) [][]int {
	var l [][]int
	for _, row := range slices.Concat(x.a.G[:cap(x.a.G)], x.b.G[:cap(x.b.G)], [][]int{x.g}) {
		l = append(l, slices.Clone(row[:cap(row)]))
	}
	return l
}

// checkMemory fails the test if arguments are modified, or if results share
// memory with them or with each other.
func checkMemory(l lab, a, b api.Code) {
	l.Helper()
	x := arguments{a: roomyCode(a), b: roomyCode(b), i: l.source.Intn(a.N), g: roomy(l.source.Perm(a.N), 1, 0)}
	before := whole(x)
	want := callAll(x)
	if !callAll(x).spoil(want) {
		l.Errorf("results for %v share memory", x)
	}
	if !sameLists(whole(x), before) {
		l.Errorf("arguments were modified: %v", x)
	}
	if !callAll(x).equal(want) {
		l.Errorf("results for %v have changed", x)
	}
}

// N7, and results of memory of their own.
func TestMemoryIsNotShared(t *testing.T) {
	forDoubles(t, checkMemory)
	forConcats(t, checkMemory)
	forSums(t, func(l lab, a, b api.Code) {
		if a.N%5 == 0 {
			checkMemory(l, a, b)
		}
	})
}

// notCodes returns what is no valid code: with fields and lengths that there are
// not, and with rows that are not reduced, or no rows at all.
func notCodes() []api.Code {
	rows := [][][]int{
		nil, {nil}, {{}, {}}, {{0}}, {{2}}, {{1}, {1}}, {{1, 0}, {1}}, {{1, 0}, nil}, {{0, 1}, {1, 0}}, {{1, 1}, {0, 1}}, {{1, -1}}, {{1, 0}, {0, 77}}, {{0, 0}, {0, 1}},
		{extremes}, {extremes, extremes}, everything(2, 25).G, slices.Repeat(everything(2, 24).G, 3), make([][]int, 300), {make([]int, 300)}, {{1, math.MinInt}, {0, 1}}, {{1, math.MaxInt, 0}},
		{{1, 0, 1}, {0, 2, 1}}, {{0, 3, 1}},
	}
	for n := range 24 {
		rows = append(rows, everything(2, n+1).G)
	}
	var l []api.Code
	for _, g := range rows {
		for _, q := range extremes {
			l = append(l, api.Code{Q: q, N: 24, G: g}, api.Code{Q: q, N: q, G: g}, api.Code{Q: 2, N: q, G: g}, api.Code{Q: 4, N: q, G: g})
			if len(g) > 0 {
				l = append(l, api.Code{Q: q, N: len(g[0]), G: g})
			}
		}
	}
	return slices.DeleteFunc(l, code.Valid)
}

// P1: nothing panics or runs on, whatever the arguments are, and what is refused
// has zero values.
func TestNothingPanics(t *testing.T) {
	valid := []api.Code{everything(2, 1), everything(2, 2), everything(4, 2), everything(4, 24), binary(3), everything(16, 24)}
	lists := [][]int{nil, {0}, {1, 0}, {0, 1, 2}, extremes}
	for j, c := range notCodes() {
		d := valid[j%len(valid)]
		for _, pair := range [][2]api.Code{{c, c}, {c, d}, {d, c}} {
			got := callAll(arguments{a: pair[0], b: pair[1], i: extremes[j%len(extremes)], g: lists[j%len(lists)]})
			refused := len(got.errs)
			if code.Valid(pair[0]) {
				refused = ofTwo
			}
			// The document leaves open what is returned for what is not valid; the
			// package says it.
			for i, err := range got.errs {
				if err != api.OK && !same(got.codes[i], api.Code{}) || i < refused && err != api.ErrArg {
					t.Errorf("result %d for %v: %v, error %d", i, pair, got.codes[i], err)
				}
			}
		}
	}
}

// P1: codes of which nothing can be made, or something, and lists of all kinds.
func TestNothingElsePanics(t *testing.T) {
	var labs []lab
	for _, q := range sizes {
		labs = append(labs, newLab(t, q))
	}
	forCodes(t, func(l lab, a api.Code) {
		other := labs[l.source.Intn(len(labs))]
		x := arguments{a: a, b: other.any(l.from(1, 24)), i: l.from(-1, 24), g: l.drawn(l.from(0, 25))}
		got := callAll(x)
		for i, c := range got.codes {
			if err := got.errs[i]; (err == api.OK) != code.Valid(c) || err != api.OK && !same(c, api.Code{}) {
				l.Errorf("result %d for %v: %v, error %d", i, x, c, err)
			}
		}
	})
}
