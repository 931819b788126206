package geometry_test

import (
	"math"
	"slices"
	"testing"

	"plexus/api"
	"plexus/field"
	"plexus/geometry"
	"plexus/incidence"
	"plexus/square"
)

// P10.1: the examples of the chapter.
func TestExamples(t *testing.T) {
	f := mustField(t, 2)
	want := [][]int{{0, 0, 1}, {0, 1, 0}, {0, 1, 1}, {1, 0, 0}, {1, 0, 1}, {1, 1, 0}, {1, 1, 1}}
	if l := mustPoints(t, f, 2); !sameLists(l, want) {
		t.Errorf("points of the plane: %v", l)
	}
	x, err := geometry.Lines(f, 2)
	if err != api.OK || !slices.Contains(x.B, 0b111) {
		t.Errorf("lines of the plane: %v, error %d", x, err)
	}
	if k, err := geometry.Difference(7, 0b1011); k != 1 || err != api.OK {
		t.Errorf("Difference modulo 7: %d, error %d", k, err)
	}
	if k, err := geometry.Difference(5, 0b11); k != 0 || err != api.ErrNot {
		t.Errorf("Difference modulo 5: %d, error %d", k, err)
	}
}

// P10.1: known structures, written out.
func TestKnownStructures(t *testing.T) {
	two, three := mustField(t, 2), mustField(t, 3)
	for _, c := range []struct {
		what string
		make func() (api.Inc, api.Errno)
		want string
	}{
		{"the line over 2 elements", func() (api.Inc, api.Errno) { return geometry.Lines(two, 1) }, "3: 0,1,2"},
		{"the plane over 2 elements", func() (api.Inc, api.Errno) { return geometry.Lines(two, 2) }, "7: 0,1,2 0,3,4 1,3,5 2,4,5 2,3,6 1,4,6 0,5,6"},
		{"hyperplanes over 2 elements", func() (api.Inc, api.Errno) { return geometry.Hyper(two, 1) }, "3: 0 1 2"},
		// 01, 10, 11, 12: the product of 11 and 12 is 1 + 2, or 0.
		{"hyperplanes over 3 elements", func() (api.Inc, api.Errno) { return geometry.Hyper(three, 1) }, "4: 0 1 2 3"},
		{"the affine plane of order 2", func() (api.Inc, api.Errno) { return geometry.Affine(two) }, "4: 0,1 0,2 1,2 0,3 1,3 2,3"},
		{"all equal translates", func() (api.Inc, api.Errno) { return geometry.Develop(3, 7) }, "3: 0,1,2 0,1,2 0,1,2"},
		{"translates of nothing", func() (api.Inc, api.Errno) { return geometry.Develop(2, 0) }, "2: - -"},
		{"translates of a number", func() (api.Inc, api.Errno) { return geometry.Develop(4, 4) }, "4: 0 1 2 3"},
		{"equal translates", func() (api.Inc, api.Errno) { return geometry.Develop(4, 5) }, "4: 0,2 0,2 1,3 1,3"},
	} {
		want, err := incidence.Parse(c.want)
		if err != api.OK {
			t.Fatalf("%s: no structure", c.want)
		}
		x, err := c.make()
		check(t, c.what, x, err, want)
	}
}

// P10.1: Points, for all fields and dimensions.
func TestPointsByHand(t *testing.T) {
	for _, q := range sizes {
		f := mustField(t, q)
		for _, d := range dimensions {
			l, err := geometry.Points(f, d)
			if sizeByHand(q, d) > 64 {
				if len(l) != 0 || err != api.ErrBig {
					t.Errorf("Points for %d and %d: %v, error %d", q, d, l, err)
				}
				continue
			}
			if !sameLists(l, pointsByHand(q, d)) || len(l) != sizeByHand(q, d) || err != api.OK {
				t.Errorf("Points for %d and %d: %v, error %d", q, d, l, err)
			}
		}
	}
	if n := len(geometries()); n != 35 {
		t.Errorf("%d spaces with at most 64 points", n)
	}
}

// P10.1: Lines and Hyper, for all fields and dimensions.
func TestLinesAndHyperplanesByHand(t *testing.T) {
	for _, q := range sizes {
		f := mustField(t, q)
		for _, d := range dimensions {
			lines, errLines := geometry.Lines(f, d)
			hyper, errHyper := geometry.Hyper(f, d)
			v := sizeByHand(q, d)
			if v > 16 {
				checkRefused(t, "Lines", lines, errLines, api.ErrBig)
				checkRefused(t, "Hyper", hyper, errHyper, api.ErrBig)
				continue
			}
			check(t, "Lines", lines, errLines, linesByHand(f, q, d))
			check(t, "Hyper", hyper, errHyper, hyperByHand(f, q, d))
			// Two points of q + 1 are on a line: what Lines does not look at.
			if n := v * (v - 1) / (q * (q + 1)); n > 64 || n != len(lines.B) {
				t.Errorf("%d lines for %d and %d, not %d", len(lines.B), q, d, n)
			}
		}
	}
	if n := len(smallGeometries()); n != 12 {
		t.Errorf("%d spaces with at most 16 points", n)
	}
}

// P10.1: Affine, for all fields.
func TestAffineByHand(t *testing.T) {
	for _, q := range sizes {
		f := mustField(t, q)
		x, err := geometry.Affine(f)
		if q > 4 {
			checkRefused(t, "Affine", x, err, api.ErrBig)
			continue
		}
		check(t, "Affine", x, err, affineByHand(f, q))
		// The places of the squares m i + j with one symbol are lines, too.
		family, errFamily := square.Family(f)
		net, errNet := square.Net(q, family)
		if errFamily != api.OK || errNet != api.OK {
			t.Fatalf("no net of order %d: errors %d, %d", q, errFamily, errNet)
		}
		check(t, "Affine", x, err, net)
	}
}

// P10.1: each line of the affine plane is that of an equation.
func TestAffineLinesHaveEquations(t *testing.T) {
	for _, q := range []int{2, 3, 4} {
		f := mustField(t, q)
		var blocks []uint64
		for c := range q {
			blocks = append(blocks, blockOf(q*q, func(p int) bool { return p/q == c }))
			for m := range q {
				blocks = append(blocks, blockOf(q*q, func(p int) bool { return p%q == field.Add(f, field.Mul(f, m, p/q), c) }))
			}
		}
		x, err := geometry.Affine(f)
		check(t, "Affine", x, err, structure(q*q, blocks))
	}
}

// P10.1: Develop and Difference, for all sets.
func TestSetsByHand(t *testing.T) {
	forSets(func(v int, set uint64) {
		x, err := geometry.Develop(v, set)
		check(t, "Develop", x, err, developByHand(v, set))
		k, is := differenceByHand(v, set)
		want := api.OK
		if !is {
			want = api.ErrNot
		}
		if got, err := geometry.Difference(v, set); got != k || err != want {
			t.Errorf("Difference of %b modulo %d: %d, error %d, not %d, error %d", set, v, got, err, k, want)
		}
	})
}

// P10.1: difference sets and their numbers, written out.
func TestKnownDifferenceSets(t *testing.T) {
	for _, c := range []struct {
		v       int
		numbers []int
		k       int
		err     api.Errno
	}{
		{2, nil, 0, api.OK},
		{2, []int{1}, 0, api.OK},
		{2, []int{0, 1}, 2, api.OK},
		{3, []int{0, 1}, 1, api.OK},
		{3, []int{0, 2}, 1, api.OK},
		{4, []int{0, 1}, 0, api.ErrNot},
		{4, []int{0, 2}, 0, api.ErrNot},
		{4, []int{0, 1, 3}, 2, api.OK},
		{7, []int{1, 2, 4}, 1, api.OK},
		{7, []int{0, 3, 5, 6}, 2, api.OK},
		{7, []int{0, 1, 2}, 0, api.ErrNot},
		{11, []int{1, 3, 4, 5, 9}, 2, api.OK},
		{13, []int{0, 1, 3, 9}, 1, api.OK},
		{13, []int{0, 1, 3, 8}, 0, api.ErrNot},
		{15, []int{0, 1, 2, 4, 5, 8, 10}, 3, api.OK},
		{16, []int{15}, 0, api.OK},
		{16, []int{0, 8}, 0, api.ErrNot},
		{16, []int{0, 1, 2, 3, 4, 5, 6, 7, 8, 9, 10, 11, 12, 13, 14}, 14, api.OK},
	} {
		set := blockOf(c.v, func(i int) bool { return slices.Contains(c.numbers, i) })
		if k, err := geometry.Difference(c.v, set); k != c.k || err != c.err {
			t.Errorf("Difference of %v modulo %d: %d, error %d", c.numbers, c.v, k, err)
		}
	}
}

// P10.1: ErrArg for fields that are not valid, also if a space would be too
// large.
func TestNoFields(t *testing.T) {
	for _, f := range notFields() {
		for _, d := range append([]int{1, 2, 3, 4, 5}, extremes...) {
			l, err := geometry.Points(f, d)
			if len(l) != 0 || err != api.ErrArg {
				t.Errorf("Points over %v: %v, error %d", f, l, err)
			}
			x, err := geometry.Lines(f, d)
			checkRefused(t, "Lines", x, err, api.ErrArg)
			y, err := geometry.Hyper(f, d)
			checkRefused(t, "Hyper", y, err, api.ErrArg)
		}
		x, err := geometry.Affine(f)
		checkRefused(t, "Affine", x, err, api.ErrArg)
	}
}

// P10.1: ErrArg for other dimensions, also over fields with many elements.
func TestNoDimensions(t *testing.T) {
	for _, q := range sizes {
		f := mustField(t, q)
		for _, d := range extremes {
			if d >= 1 && d <= 5 {
				continue
			}
			l, err := geometry.Points(f, d)
			if len(l) != 0 || err != api.ErrArg {
				t.Errorf("Points for %d and %d: %v, error %d", q, d, l, err)
			}
			x, err := geometry.Lines(f, d)
			checkRefused(t, "Lines", x, err, api.ErrArg)
			y, err := geometry.Hyper(f, d)
			checkRefused(t, "Hyper", y, err, api.ErrArg)
		}
	}
}

// P10.1: ErrArg for other numbers of points, and for sets with other numbers.
func TestNoSets(t *testing.T) {
	refuse := func(v int, set uint64) {
		t.Helper()
		x, err := geometry.Develop(v, set)
		checkRefused(t, "Develop", x, err, api.ErrArg)
		if k, err := geometry.Difference(v, set); k != 0 || err != api.ErrArg {
			t.Errorf("Difference of %b modulo %d: %d, error %d", set, v, k, err)
		}
	}
	for _, v := range extremes {
		for _, set := range []uint64{0, 1, 3, 0b1011, 1 << 15, 1 << 16, 1 << 63, math.MaxUint64} {
			if v < 2 || v > 16 {
				refuse(v, set)
			}
		}
	}
	for v := 2; v <= 16; v++ {
		for i := v; i < 64; i++ {
			refuse(v, 1<<i)
			refuse(v, 1<<i|1)
		}
		refuse(v, math.MaxUint64)
	}
}
