package geometry_test

import (
	"math"
	"math/bits"
	"slices"
	"testing"

	"plexus/api"
	"plexus/field"
	"plexus/geometry"
	"plexus/space"
)

// sizes are those of the fields, dimensions those of spaces.
var (
	sizes      = []int{2, 3, 4, 5, 7, 8, 9, 11, 13, 16, 17, 19, 23, 25, 27, 29, 31, 32, 37, 41, 43, 47, 49, 53, 59, 61, 64}
	dimensions = []int{1, 2, 3, 4, 5}
)

// extremes are numbers at and beyond limits.
var extremes = []int{math.MinInt, math.MinInt + 1, -64, -1, 0, 1, 2, 5, 6, 7, 15, 16, 17, 63, 64, 65, 1 << 32, 1<<32 + 2, math.MaxInt}

func mustField(t *testing.T, q int) api.Field {
	t.Helper()
	f, err := field.Make(q)
	if err != api.OK {
		t.Fatalf("no field with %d elements: error %d", q, err)
	}
	return f
}

// notFields returns what is not valid, some of it nearly.
func notFields() []api.Field {
	l := []api.Field{
		{},
		{P: 2},
		{P: 2, E: 1},
		{P: 2, E: 1, Mod: []int{1}},
		{P: 2, E: 1, Mod: []int{0, 0}},
		{P: 3, E: 1, Mod: []int{-3}},
		{P: 2, E: 2, Mod: []int{1, 0}},
		{P: 2, E: 2, Mod: []int{1}},
		{P: 2, E: 2, Mod: []int{1, 1, 0}},
		{P: 2, E: 3, Mod: []int{1, 0, 1}},
		{P: 3, E: 2, Mod: []int{2, 1}},
		{P: 4, E: 1, Mod: []int{0}},
		{P: 1, E: 1, Mod: []int{0}},
		{P: 67, E: 1, Mod: []int{0}},
		{P: 2, E: 7, Mod: []int{1, 1, 0, 0, 0, 0, 0}},
		{P: -2, E: 2, Mod: []int{1, 1}},
		{P: 2, E: 3000, Mod: make([]int, 3000)},
	}
	for _, n := range extremes {
		l = append(l, api.Field{P: n, E: n, Mod: []int{0}}, api.Field{P: 2, E: 1, Mod: []int{n + 3}})
		if n != 2 && n != 5 && n != 7 && n != 17 {
			l = append(l, api.Field{P: n, E: 1, Mod: []int{0}})
		}
	}
	return slices.DeleteFunc(l, field.Valid)
}

// sizeByHand returns the number of points of a space.
func sizeByHand(q, d int) int {
	n := 0
	for i := range d + 1 {
		n += int(math.Pow(float64(q), float64(i)))
	}
	return n
}

// geometries are the spaces with at most 64 points: q and d.
func geometries() [][2]int {
	var l [][2]int
	for _, q := range sizes {
		for _, d := range dimensions {
			if sizeByHand(q, d) <= 64 {
				l = append(l, [2]int{q, d})
			}
		}
	}
	return l
}

// smallGeometries are the spaces with at most 16 points.
func smallGeometries() [][2]int {
	return slices.DeleteFunc(geometries(), func(c [2]int) bool { return sizeByHand(c[0], c[1]) > 16 })
}

// pointsByHand returns the points: some zeros, a 1, and then any elements.
func pointsByHand(q, d int) [][]int {
	var l [][]int
	for zeros := range d + 1 {
		for _, rest := range allVectors(q, d-zeros) {
			l = append(l, slices.Concat(make([]int, zeros), []int{1}, rest))
		}
	}
	slices.SortFunc(l, slices.Compare[[]int])
	return l
}

// allVectors returns the vectors of n elements: the digits of numbers.
func allVectors(q, n int) [][]int {
	l := [][]int{{}}
	for range n {
		var longer [][]int
		for a := range q {
			for _, v := range l {
				longer = append(longer, append([]int{a}, v...))
			}
		}
		l = longer
	}
	return l
}

// times returns a multiple of v.
func times(f api.Field, a int, v []int) []int {
	var l []int
	for _, b := range v {
		l = append(l, field.Mul(f, a, b))
	}
	return l
}

// blockOf returns the block of the numbers less than n that are in it.
func blockOf(n int, has func(i int) bool) uint64 {
	b := uint64(0)
	for i := range n {
		if has(i) {
			b |= 1 << i
		}
	}
	return b
}

// structure returns the structure of blocks in any order.
func structure(v int, blocks []uint64) api.Inc {
	l := slices.Clone(blocks)
	slices.Sort(l)
	return api.Inc{V: v, B: l}
}

// linesByHand returns the lines: all sets of points that depend on two of them.
func linesByHand(f api.Field, q, d int) api.Inc {
	points := pointsByHand(q, d)
	var blocks []uint64
	for j := range points {
		for i := range j {
			b := blockOf(len(points), func(k int) bool { return space.Rank(f, [][]int{points[i], points[j], points[k]}) == 2 })
			if !slices.Contains(blocks, b) {
				blocks = append(blocks, b)
			}
		}
	}
	return structure(len(points), blocks)
}

// hyperByHand returns the hyperplanes: the points of the subspaces of the
// vectors whose product with a point is 0.
func hyperByHand(f api.Field, q, d int) api.Inc {
	points := pointsByHand(q, d)
	var blocks []uint64
	for _, a := range points {
		kernel := space.Kernel(f, d+1, [][]int{a})
		blocks = append(blocks, blockOf(len(points), func(k int) bool { return space.Has(f, kernel, points[k]) }))
	}
	return structure(len(points), blocks)
}

// affineByHand returns the lines of the affine plane: all sets of points that
// are in one direction from one of them.
func affineByHand(f api.Field, q int) api.Inc {
	var blocks []uint64
	for j := range q * q {
		for i := range j {
			b := blockOf(q*q, func(k int) bool { return determinant(f, q, i, j, k) == 0 })
			if !slices.Contains(blocks, b) {
				blocks = append(blocks, b)
			}
		}
	}
	return structure(q*q, blocks)
}

// determinant returns that of the differences of two points from a third one.
func determinant(f api.Field, q, i, j, k int) int {
	x := func(p, r int) int { return field.Sub(f, p/q, r/q) }
	y := func(p, r int) int { return field.Sub(f, p%q, r%q) }
	return field.Sub(f, field.Mul(f, x(j, i), y(k, i)), field.Mul(f, x(k, i), y(j, i)))
}

// rotated returns the translate of a set by i, less than v.
func rotated(v int, set uint64, i int) uint64 { return (set<<i | set>>(v-i)) & (1<<v - 1) }

// developByHand returns the translates of a set.
func developByHand(v int, set uint64) api.Inc {
	var blocks []uint64
	for i := range v {
		blocks = append(blocks, rotated(v, set, i))
	}
	return structure(v, blocks)
}

// differenceByHand returns the number of a difference set, if it is one: that of
// the numbers that a set and each of its translates have in common.
func differenceByHand(v int, set uint64) (int, bool) {
	n := bits.OnesCount64(set & rotated(v, set, 1))
	for i := 2; i < v; i++ {
		if bits.OnesCount64(set&rotated(v, set, i)) != n {
			return 0, false
		}
	}
	return n, true
}

// forSets runs a test for all sets modulo all v.
func forSets(test func(v int, set uint64)) {
	for v := 2; v <= 16; v++ {
		for set := range uint64(1) << v {
			test(v, set)
		}
	}
}

func sameLists(a, b [][]int) bool { return slices.EqualFunc(a, b, slices.Equal[[]int]) }

func sameStructure(x, y api.Inc) bool { return x.V == y.V && slices.Equal(x.B, y.B) }

// check fails the test unless a structure is want, without an error.
func check(t *testing.T, what string, got api.Inc, err api.Errno, want api.Inc) {
	t.Helper()
	if !sameStructure(got, want) || err != api.OK {
		t.Errorf("%s: %v, error %d, not %v", what, got, err, want)
	}
}

// checkRefused fails the test unless there is no structure, and the error is
// want.
func checkRefused(t *testing.T, what string, got api.Inc, err, want api.Errno) {
	t.Helper()
	if !sameStructure(got, api.Inc{}) || err != want {
		t.Errorf("%s: %v, error %d, not %d", what, got, err, want)
	}
}

// must returns a function that returns a structure, and fails the test if there
// is an error.
func must(t *testing.T) func(x api.Inc, err api.Errno) api.Inc {
	return func(x api.Inc, err api.Errno) api.Inc {
		t.Helper()
		if err != api.OK {
			t.Fatalf("error %d", err)
		}
		return x
	}
}

// mustPoints returns the points of a space.
func mustPoints(t *testing.T, f api.Field, d int) [][]int {
	t.Helper()
	l, err := geometry.Points(f, d)
	if err != api.OK {
		t.Fatalf("no points over %v in dimension %d: error %d", f, d, err)
	}
	return l
}
