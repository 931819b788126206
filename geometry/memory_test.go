package geometry_test

import (
	"math"
	"slices"
	"testing"

	"plexus/api"
	"plexus/geometry"
)

// call is what all functions return for the same arguments: the points, the
// blocks, and the numbers.
type call struct {
	lists   [][]int
	blocks  [][]uint64
	numbers []int
	errs    []api.Errno
}

func callAll(f api.Field, d, v int, set uint64) call {
	points, errPoints := geometry.Points(f, d)
	lines, errLines := geometry.Lines(f, d)
	hyper, errHyper := geometry.Hyper(f, d)
	affine, errAffine := geometry.Affine(f)
	developed, errDevelop := geometry.Develop(v, set)
	k, errDifference := geometry.Difference(v, set)
	return call{
		lists:   points,
		blocks:  [][]uint64{lines.B, hyper.B, affine.B, developed.B},
		numbers: []int{lines.V, hyper.V, affine.V, developed.V, k},
		errs:    []api.Errno{errPoints, errLines, errHyper, errAffine, errDevelop, errDifference},
	}
}

func (c call) equal(d call) bool {
	return sameLists(c.lists, d.lists) && slices.EqualFunc(c.blocks, d.blocks, slices.Equal[[]uint64]) &&
		slices.Equal(c.numbers, d.numbers) && slices.Equal(c.errs, d.errs)
}

// spoil writes to all lists, also behind their ends, one after the other, and
// reports whether what is still to come stays as it is.
func (c call) spoil(want call) bool {
	kept := true
	for i, l := range c.lists {
		kept = kept && slices.Equal(l, want.lists[i])
		l = l[:cap(l)]
		for k := range l {
			l[k] = -1
		}
	}
	clear(c.lists[:cap(c.lists)])
	for i, l := range c.blocks {
		kept = kept && slices.Equal(l, want.blocks[i])
		clear(l[:cap(l)])
	}
	return kept
}

// J7, and results of memory of their own.
func TestMemoryIsNotShared(t *testing.T) {
	for _, c := range append(geometries(), [2]int{64, 1}, [2]int{2, 6}) {
		q, d := c[0], c[1]
		f := mustField(t, q)
		f.Mod = append(f.Mod, 7, 8, 9)[:len(f.Mod)]
		mod := slices.Clone(f.Mod[:cap(f.Mod)])
		v, set := 2+(q+d)%15, uint64(q*q)
		want := callAll(f, d, v, set)
		if !callAll(f, d, v, set).spoil(want) {
			t.Errorf("results for %d and %d share memory", q, d)
		}
		if !slices.Equal(f.Mod[:cap(f.Mod)], mod) {
			t.Errorf("the field with %d elements was modified: %v", q, f)
		}
		if !callAll(f, d, v, set).equal(want) {
			t.Errorf("results for %d and %d have changed", q, d)
		}
	}
}

// P1: nothing panics or runs on, whatever the arguments are.
func TestNothingPanics(t *testing.T) {
	fields := notFields()
	for _, q := range sizes {
		fields = append(fields, mustField(t, q))
	}
	for _, f := range fields {
		for i, n := range extremes {
			for _, set := range []uint64{0, 1, 0b1011, 1 << 16, math.MaxUint64} {
				callAll(f, n, extremes[len(extremes)-1-i], set)
			}
		}
	}
}

// P1: with an error, nothing else is returned, and the first error is.
func TestOthersHaveNoResults(t *testing.T) {
	for _, c := range []struct {
		q, d, v int
		set     uint64
		want    []api.Errno
	}{
		{64, 5, 17, 0, []api.Errno{api.ErrBig, api.ErrBig, api.ErrBig, api.ErrBig, api.ErrArg, api.ErrArg}},
		{5, 6, 5, 0b100000, []api.Errno{api.ErrArg, api.ErrArg, api.ErrArg, api.ErrBig, api.ErrArg, api.ErrArg}},
		{64, 0, -1, 0, []api.Errno{api.ErrArg, api.ErrArg, api.ErrArg, api.ErrBig, api.ErrArg, api.ErrArg}},
	} {
		got := callAll(mustField(t, c.q), c.d, c.v, c.set)
		if !slices.Equal(got.errs, c.want) || !got.equal(call{blocks: make([][]uint64, 4), numbers: make([]int, 5), errs: c.want}) {
			t.Errorf("results for %v: %v", c, got)
		}
	}
}
