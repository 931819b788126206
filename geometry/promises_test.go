package geometry_test

import (
	"math/bits"
	"slices"
	"testing"

	"plexus/api"
	"plexus/geometry"
	"plexus/incidence"
)

// P10.2.
func TestVectorsAreMultiplesOfOnePoint(t *testing.T) {
	for _, c := range geometries() {
		q, d := c[0], c[1]
		f := mustField(t, q)
		var multiples [][]int
		for _, p := range mustPoints(t, f, d) {
			for a := 1; a < q; a++ {
				multiples = append(multiples, times(f, a, p))
			}
		}
		slices.SortFunc(multiples, slices.Compare[[]int])
		all := allVectors(q, d+1)
		slices.SortFunc(all, slices.Compare[[]int])
		if !sameLists(multiples, all[1:]) {
			t.Errorf("multiples of the points for %d and %d: %v", q, d, multiples)
		}
	}
}

// allOther says of a table whether it has n at all places outside the diagonal.
func allOther(rows [][]int, n int) bool {
	for i, row := range rows {
		for j, m := range row {
			if i != j && m != n {
				return false
			}
		}
	}
	return true
}

// joined says of a structure whether each two points are together in n blocks.
func joined(x api.Inc, n int) bool { return allOther(incidence.Pairs(x), n) }

// meeting says of a structure whether each two blocks have n points in common.
func meeting(x api.Inc, n int) bool { return allOther(incidence.Meets(x), n) }

// uniform says of a structure whether all blocks have n points.
func uniform(x api.Inc, n int) bool {
	return !slices.ContainsFunc(x.B, func(b uint64) bool { return bits.OnesCount64(b) != n })
}

// P10.3.
func TestLinesJoinPoints(t *testing.T) {
	for _, c := range smallGeometries() {
		q, d := c[0], c[1]
		x := must(t)(geometry.Lines(mustField(t, q), d))
		if x.V != sizeByHand(q, d) || !incidence.Valid(x) || !joined(x, 1) || !uniform(x, q+1) {
			t.Errorf("lines for %d and %d: %v", q, d, x)
		}
		if d == 2 && !meeting(x, 1) {
			t.Errorf("lines of the plane for %d: %v", q, x)
		}
	}
}

// P10.4.
func TestHyperplanesAreEqual(t *testing.T) {
	for _, c := range smallGeometries() {
		q, d := c[0], c[1]
		f := mustField(t, q)
		x := must(t)(geometry.Hyper(f, d))
		// Those of d - 1 and d - 2: hyperplanes are spaces.
		size, common := sizeByHand(q, d-1), sizeByHand(q, d-2)
		if x.V != sizeByHand(q, d) || len(x.B) != x.V || !incidence.Valid(x) || !uniform(x, size) || !meeting(x, common) {
			t.Errorf("hyperplanes for %d and %d: %v", q, d, x)
		}
		if degrees := incidence.Degrees(x); slices.Min(degrees) != size || slices.Max(degrees) != size {
			t.Errorf("hyperplanes for %d and %d: degrees %v", q, d, degrees)
		}
		if d == 2 {
			lines, err := geometry.Lines(f, d)
			check(t, "Lines", lines, err, x)
		}
	}
}

// P10.5: the classes are those of the lines without a common point.
func TestParallels(t *testing.T) {
	for _, q := range []int{2, 3, 4} {
		x := must(t)(geometry.Affine(mustField(t, q)))
		if x.V != q*q || len(x.B) != q*(q+1) || !incidence.Valid(x) || !joined(x, 1) || !uniform(x, q) {
			t.Errorf("the affine plane of order %d: %v", q, x)
		}
		classes := map[uint64]bool{}
		seen := 0
		for i, row := range incidence.Meets(x) {
			class := blockOf(len(row), func(j int) bool { return i == j || row[j] == 0 })
			if bits.OnesCount64(class) != q {
				t.Errorf("%d lines of order %d in a class: %v", bits.OnesCount64(class), q, x)
			}
			if !classes[class] {
				seen += bits.OnesCount64(class)
			}
			classes[class] = true
		}
		if len(classes) != q+1 || seen != len(x.B) {
			t.Errorf("%d classes with %d lines of order %d: %v", len(classes), seen, q, x)
		}
	}
}

// together returns the number of blocks in which each two points are, if it is
// the same one.
func together(x api.Inc) (int, bool) {
	number := -1
	for j := range x.V {
		for i := range j {
			pair, n := uint64(1)<<i|1<<j, 0
			for _, b := range x.B {
				if b&pair == pair {
					n++
				}
			}
			if number >= 0 && n != number {
				return 0, false
			}
			number = n
		}
	}
	return number, true
}

// P10.6.
func TestDifferenceSets(t *testing.T) {
	found := 0
	forSets(func(v int, set uint64) {
		k, err := geometry.Difference(v, set)
		n, is := together(must(t)(geometry.Develop(v, set)))
		if is != (err == api.OK) || k != n {
			t.Errorf("%b modulo %d: the number %d, error %d; together in %d: %t", set, v, k, err, n, is)
		}
		if err != api.OK {
			return
		}
		if size := bits.OnesCount64(set); size > 1 && size < v-1 {
			found++
		}
		for i := range v {
			if n, err := geometry.Difference(v, rotated(v, set, i)); n != k || err != api.OK {
				t.Errorf("the translate by %d of %b modulo %d: %d, error %d", i, set, v, n, err)
			}
		}
		complement := 1<<v - 1 - set
		want := v - 2*bits.OnesCount64(set) + k
		if n, err := geometry.Difference(v, complement); n != want || err != api.OK {
			t.Errorf("the complement of %b modulo %d: %d, error %d, not %d", set, v, n, err, want)
		}
	})
	// 2 of 7, 2 of 11, 4 of 13, and 2 of 15 numbers with their translates, and the
	// complements.
	if found != 2*(2*7+2*11+4*13+2*15) {
		t.Errorf("%d difference sets with more than one number, and without", found)
	}
}
