package design_test

import (
	"math"
	"math/rand"
	"slices"
	"testing"

	"plexus/api"
	"plexus/design"
)

// call is what all functions return for the same arguments.
type call struct {
	params   []api.Params
	fraction api.Frac
	classes  [][]int
	errs     []api.Errno
}

func callAll(x api.Inc, p api.Params, i int, c [][]int) call {
	fraction, errLambda := design.Lambda(p, i)
	strength, errStrength := design.Strength(x)
	turned, errTurned := design.Turned(p)
	classes, errResolve := design.Resolve(x)
	return call{
		params:   []api.Params{strength, turned},
		fraction: fraction,
		classes:  classes,
		errs:     []api.Errno{design.Check(x, p), errLambda, errStrength, errTurned, design.Classes(x, c), errResolve},
	}
}

func (c call) equal(d call) bool {
	return slices.Equal(c.params, d.params) && c.fraction == d.fraction && same(c.classes, d.classes) && slices.Equal(c.errs, d.errs)
}

// spoil writes to all classes, also behind their ends, one after the other, and
// reports whether what is still to come stays as it is.
func (c call) spoil(want call) bool {
	kept := len(c.classes) == len(want.classes)
	for i, class := range c.classes {
		kept = kept && slices.Equal(class, want.classes[i])
		class = class[:cap(class)]
		for k := range class {
			class[k] = -1
		}
	}
	clear(c.classes[:cap(c.classes)])
	return kept
}

// roomy returns a copy of l with room behind it, which has to stay as it is.
func roomy[T any](l []T, room ...T) []T { return append(slices.Clone(l), room...)[:len(l)] }

// wholes returns copies of the lists of l, with what is behind them, and also of
// those behind l.
func wholes(l [][]int) [][]int {
	var lists [][]int
	for _, class := range l[:cap(l)] {
		lists = append(lists, slices.Clone(class[:cap(class)]))
	}
	return lists
}

// P9.1 (I4), and results of memory of their own.
func TestMemoryIsNotShared(t *testing.T) {
	var l []resolved
	for _, s := range samples() {
		l = append(l, resolved{s.x, [][]int{upTo(len(s.x.B))}})
	}
	for _, r := range append(l, knownResolutions()...) {
		// Parameters with which it is a design, if there are any.
		p, err := design.Strength(r.x)
		if err != api.OK {
			p = api.Params{T: 1, V: r.x.V, K: 1, L: 1}
		}
		x := api.Inc{V: r.x.V, B: roomy(r.x.B, 7, 8, 9)}
		var c [][]int
		for _, class := range r.c {
			c = append(c, roomy(class, 7, 8, 9))
		}
		c = roomy(c, []int{0}, []int{1})
		blocks, lists := slices.Clone(x.B[:cap(x.B)]), wholes(c)
		want := callAll(x, p, 0, c)
		if !callAll(x, p, 0, c).spoil(want) {
			t.Errorf("results for %v share memory", x)
		}
		if !slices.Equal(x.B[:cap(x.B)], blocks) || !same(wholes(c), lists) {
			t.Errorf("arguments were modified: %v, %v", x, c)
		}
		if !callAll(x, p, 0, c).equal(want) {
			t.Errorf("results for %v have changed", x)
		}
	}
}

// notStructures returns what is not valid, and what could lead a loop astray.
func notStructures() []api.Inc {
	unordered := slices.Clone(translates(7, []int{0, 1, 3}).B)
	slices.Reverse(unordered)
	l := []api.Inc{
		{},
		{V: 7, B: unordered},
		{V: 2, B: slices.Concat(slices.Repeat([]uint64{1}, 64), slices.Repeat([]uint64{2}, 64))},
		{V: 2, B: []uint64{2, 1}},
		{V: 2, B: []uint64{3, 0}},
		{V: 1, B: make([]uint64, 65)},
		{V: 16, B: slices.Repeat([]uint64{1<<16 - 1}, 3000)},
		{V: 16, B: []uint64{1, math.MaxUint64, 5}},
		{V: 0, B: []uint64{0}},
		{V: 64, B: []uint64{math.MaxUint64}},
		{V: 200, B: []uint64{1, 2, math.MaxUint64}},
	}
	for v := 1; v <= 16; v++ {
		l = append(l, api.Inc{V: v, B: []uint64{1 << v}}, api.Inc{V: v, B: []uint64{1, 2, 3, math.MaxUint64}})
	}
	for _, v := range extremes {
		if v < 1 || v > 16 {
			l = append(l, api.Inc{V: v}, api.Inc{V: v, B: []uint64{0}}, api.Inc{V: v, B: []uint64{1, 2, 3}})
		}
	}
	return l
}

// P1: nothing panics or runs on, whatever the arguments are.
func TestNothingPanics(t *testing.T) {
	source := rand.New(rand.NewSource(6))
	lists := [][][]int{nil, {nil}, {{0}}, {{0, 0}, {1}}, {extremes}, {upTo(64)}, {upTo(300), upTo(300)}, slices.Repeat([][]int{{0, 1}}, 1000)}
	l := notStructures()
	for _, s := range samples() {
		l = append(l, s.x)
	}
	for _, x := range l {
		for _, c := range lists {
			drawn := func() int { return extremes[source.Intn(len(extremes))] }
			callAll(x, api.Params{T: drawn(), V: drawn(), K: drawn(), L: drawn()}, drawn(), c)
			callAll(x, api.Params{T: source.Intn(6), V: x.V, K: source.Intn(17), L: 1 + source.Intn(64)}, source.Intn(6), c)
		}
	}
}

// What is not valid is no design and has no resolution, also where blocks would
// be right but for their order or their number.
func TestOthersHaveNoResults(t *testing.T) {
	right := slices.DeleteFunc(someParams([]int{0, 1, 2, 3, 7, 64}), func(p api.Params) bool { return !isRightByHand(p) })
	for _, x := range notStructures() {
		for _, p := range right {
			checkIs(t, x, p, api.ErrDesign)
		}
		c := callAll(x, right[0], 0, [][]int{upTo(len(x.B))})
		want := []api.Errno{api.ErrDesign, api.OK, api.ErrDesign, api.OK, api.ErrDesign, api.ErrNone}
		if len(x.B) > 14 {
			want[5] = api.ErrBig
		}
		if !slices.Equal(c.errs, want) || c.params[0] != (api.Params{}) || len(c.classes) != 0 {
			t.Errorf("results for %v: %v", x, c)
		}
	}
}
