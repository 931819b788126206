package incidence_test

import (
	"math"
	"math/rand"
	"slices"
	"testing"

	"plexus/api"
	"plexus/incidence"
)

// P6.1: the examples of the chapter.
func TestExamples(t *testing.T) {
	x, err := incidence.Make(3, [][]int{{0, 1}, {1, 2}, {1}})
	check(t, "Make", x, api.Inc{V: 3, B: []uint64{2, 3, 6}}, x)
	dual, errDual := incidence.Dual(x)
	check(t, "Dual", dual, api.Inc{V: 3, B: []uint64{2, 4, 7}}, x)
	derived, errDerived := incidence.Derived(x, 1)
	check(t, "Derived", derived, api.Inc{V: 2, B: []uint64{0, 1, 2}}, x)
	residual, errResidual := incidence.Residual(x, 0)
	check(t, "Residual", residual, api.Inc{V: 2, B: []uint64{1, 3}}, x)
	if errs := []api.Errno{err, errDual, errDerived, errResidual}; !slices.Equal(errs, make([]api.Errno, 4)) {
		t.Errorf("errors %v", errs)
	}
	if l := incidence.Degrees(x); !slices.Equal(l, []int{1, 3, 1}) {
		t.Errorf("Degrees: %v", l)
	}
	if l := incidence.Pairs(x); !sameRows(l, [][]int{{1, 1, 0}, {1, 3, 1}, {0, 1, 1}}) {
		t.Errorf("Pairs: %v", l)
	}
	if l := incidence.Traces(x, []int{2, 1}); !slices.Equal(l, []uint64{2, 2, 3}) {
		t.Errorf("Traces: %v", l)
	}
	if s := incidence.Text(x); s != "3: 1 0,1 1,2" {
		t.Errorf("Text: %q", s)
	}
	y, err := incidence.Make(3, [][]int{{}, {0, 2}, {1}})
	if s := incidence.Text(y); err != api.OK || s != "3: - 1 0,2" {
		t.Errorf("Text: %q, error %d", s, err)
	}
}

// P6.1: structures are valid.
func TestStructuresAreValid(t *testing.T) {
	for _, x := range samples() {
		if !incidence.Valid(x) {
			t.Errorf("not valid: %v", x)
		}
	}
	for v := 1; v <= api.MaxPoints; v++ {
		if !incidence.Valid(api.Inc{V: v}) || !incidence.Valid(api.Inc{V: v, B: []uint64{0, 0, 1<<v - 1, 1<<v - 1}}) {
			t.Errorf("structures with %d points are not valid", v)
		}
	}
}

// notStructures returns what is not valid, and what could lead a loop astray.
func notStructures() []api.Inc {
	l := []api.Inc{
		{},
		{V: 2, B: []uint64{2, 1}},
		{V: 2, B: []uint64{0, 3, 2, 3}},
		{V: 2, B: []uint64{3, 0}},
		{V: 1, B: make([]uint64, 65)},
		{V: 16, B: make([]uint64, 65)},
		{V: 16, B: make([]uint64, 3000)},
		{V: 16, B: []uint64{1, math.MaxUint64, 5}},
		{V: 0, B: []uint64{0}},
		{V: 64, B: []uint64{math.MaxUint64}},
		{V: 200, B: []uint64{1, 2, math.MaxUint64}},
	}
	for v := 1; v <= api.MaxPoints; v++ {
		for _, b := range []uint64{1 << v, 1<<v + 1, 1 << 63, math.MaxUint64} {
			l = append(l, api.Inc{V: v, B: []uint64{b}}, api.Inc{V: v, B: []uint64{0, 1, b}})
		}
	}
	for _, v := range []int{math.MinInt, math.MinInt + 1, -64, -1, 0, 17, 32, 63, 64, 65, 1 << 32, 1<<32 + 3, math.MaxInt} {
		l = append(l, api.Inc{V: v}, api.Inc{V: v, B: []uint64{0, 1, 1 << 40, math.MaxUint64}})
	}
	return l
}

// P6.1: Valid accepts all arguments.
func TestOthersAreNotValid(t *testing.T) {
	for _, x := range notStructures() {
		if incidence.Valid(x) {
			t.Errorf("valid: %v", x)
		}
	}
}

// P6.1: what is made of lists in any order, with numbers that are there several
// times.
func TestMake(t *testing.T) {
	source := rand.New(rand.NewSource(1))
	for _, x := range samples() {
		l := lists(x)
		source.Shuffle(len(l), func(i, j int) { l[i], l[j] = l[j], l[i] })
		for i := range l {
			for range min(len(l[i]), source.Intn(3)) {
				l[i] = append(l[i], l[i][source.Intn(len(l[i]))])
			}
			source.Shuffle(len(l[i]), func(a, b int) { l[i][a], l[i][b] = l[i][b], l[i][a] })
		}
		made, err := incidence.Make(x.V, l)
		check(t, "Make", made, x, x)
		if err != api.OK {
			t.Errorf("Make of %v: error %d", l, err)
		}
	}
	long, err := incidence.Make(16, [][]int{slices.Repeat([]int{15, 3}, 1000)})
	check(t, "Make", long, api.Inc{V: 16, B: []uint64{1<<15 + 8}}, long)
	if err != api.OK {
		t.Errorf("Make of a long list: error %d", err)
	}
}

// P6.1: what Make refuses.
func TestMakeRefuses(t *testing.T) {
	for _, v := range []int{math.MinInt, -1, 0, 17, 64, 1<<32 + 1, math.MaxInt} {
		for _, l := range [][][]int{nil, {nil}, {{0}}, make([][]int, 65)} {
			x, err := incidence.Make(v, l)
			checkRefused(t, "Make", x, err, api.ErrShape)
		}
	}
	for v := 1; v <= api.MaxPoints; v++ {
		for _, p := range []int{math.MinInt, -1, v, v + 1, 16, 63, 64, 1 << 32, math.MaxInt} {
			for _, l := range [][][]int{{{p}}, {{0, p}}, {{0}, {}, {p, 0}}} {
				x, err := incidence.Make(v, l)
				checkRefused(t, "Make", x, err, api.ErrShape)
			}
		}
		full, err := incidence.Make(v, make([][]int, 64))
		if len(full.B) != 64 || err != api.OK {
			t.Errorf("64 blocks: %v, error %d", full, err)
		}
		x, err := incidence.Make(v, make([][]int, 65))
		checkRefused(t, "Make of 65 blocks", x, err, api.ErrShape)
	}
}

// P6.1: Image.
func TestImage(t *testing.T) {
	source := rand.New(rand.NewSource(2))
	for _, x := range samples() {
		for _, g := range permutations(source, x.V) {
			l := lists(x)
			for _, block := range l {
				for k, p := range block {
					block[k] = g[p]
				}
			}
			check(t, "Image", incidence.Image(x, g), structure(x.V, l), x)
		}
	}
}

// P6.1: what is no permutation changes nothing.
func TestImageUnderOthers(t *testing.T) {
	for _, x := range samples() {
		n := x.V
		others := [][]int{nil, points(n + 1), points(n)[1:], points(n)[:n-1], slices.Repeat([]int{0}, n+1), points(100)}
		for _, p := range []int{math.MinInt, -1, n, 64, 1 << 32, math.MaxInt} {
			for i := range n {
				g := points(n)
				g[i] = p
				others = append(others, g)
			}
		}
		for i := 1; i < n; i++ {
			g := append(points(n)[1:], 0)
			g[i] = g[i-1]
			others = append(others, g)
		}
		for _, g := range others {
			check(t, "Image under no permutation", incidence.Image(x, g), x, x)
		}
	}
}

// without returns what is in the first n numbers but not in l.
func without(n int, l []int) []int {
	return slices.DeleteFunc(points(n), func(p int) bool { return slices.Contains(l, p) })
}

// P6.1: Complement.
func TestComplement(t *testing.T) {
	for _, x := range samples() {
		l := lists(x)
		for i := range l {
			l[i] = without(x.V, l[i])
		}
		check(t, "Complement", incidence.Complement(x), structure(x.V, l), x)
	}
}

// through returns the places of the lists of l with p.
func through(l [][]int, p int) []int {
	var places []int
	for j, block := range l {
		if slices.Contains(block, p) {
			places = append(places, j)
		}
	}
	return places
}

// P6.1: Dual.
func TestDual(t *testing.T) {
	for _, x := range samples() {
		dual, err := incidence.Dual(x)
		if len(x.B) < 1 || len(x.B) > 16 {
			checkRefused(t, "Dual", dual, err, api.ErrShape)
			continue
		}
		var l [][]int
		for p := range x.V {
			l = append(l, through(lists(x), p))
		}
		check(t, "Dual", dual, structure(len(x.B), l), x)
		if err != api.OK {
			t.Errorf("Dual of %v: error %d", x, err)
		}
	}
}

// parts returns the derived and the residual structure by hand.
func parts(x api.Inc, p int) (derived, residual api.Inc) {
	var with, others [][]int
	for _, block := range lists(x) {
		var rest []int
		for _, i := range block {
			if i < p {
				rest = append(rest, i)
			} else if i > p {
				rest = append(rest, i-1)
			}
		}
		if slices.Contains(block, p) {
			with = append(with, rest)
		} else {
			others = append(others, rest)
		}
	}
	return structure(x.V-1, with), structure(x.V-1, others)
}

// P6.1: Derived and Residual.
func TestParts(t *testing.T) {
	for _, x := range samples() {
		if x.V == 1 {
			continue
		}
		for p := range x.V {
			derived, err := incidence.Derived(x, p)
			residual, errResidual := incidence.Residual(x, p)
			wantDerived, wantResidual := parts(x, p)
			check(t, "Derived", derived, wantDerived, x)
			check(t, "Residual", residual, wantResidual, x)
			if err != api.OK || errResidual != api.OK {
				t.Errorf("parts of %v at %d: errors %d, %d", x, p, err, errResidual)
			}
		}
	}
}

// P6.1: what has no parts.
func TestPartsAreRefused(t *testing.T) {
	for _, x := range samples() {
		places := []int{math.MinInt, -1, x.V, x.V + 1, 64, 1 << 32, math.MaxInt}
		if x.V == 1 {
			places = append(places, 0)
		}
		for _, p := range places {
			derived, err := incidence.Derived(x, p)
			checkRefused(t, "Derived", derived, err, api.ErrArg)
			residual, err := incidence.Residual(x, p)
			checkRefused(t, "Residual", residual, err, api.ErrArg)
		}
	}
}

// common returns how many numbers two lists without repetitions have in common.
func common(a, b []int) int {
	return len(a) - len(slices.DeleteFunc(slices.Clone(a), func(p int) bool { return slices.Contains(b, p) }))
}

// P6.1: Degrees, Pairs and Meets.
func TestCounts(t *testing.T) {
	for _, x := range samples() {
		l := lists(x)
		degrees, pairs, meets := []int{}, [][]int{}, [][]int{}
		for i := range x.V {
			degrees = append(degrees, len(through(l, i)))
			var row []int
			for j := range x.V {
				row = append(row, common(through(l, i), through(l, j)))
			}
			pairs = append(pairs, row)
		}
		for _, a := range l {
			var row []int
			for _, b := range l {
				row = append(row, common(a, b))
			}
			meets = append(meets, row)
		}
		if got := incidence.Degrees(x); !slices.Equal(got, degrees) {
			t.Errorf("Degrees of %v: %v, not %v", x, got, degrees)
		}
		if got := incidence.Pairs(x); !sameRows(got, pairs) {
			t.Errorf("Pairs of %v: %v, not %v", x, got, pairs)
		}
		if got := incidence.Meets(x); !sameRows(got, meets) {
			t.Errorf("Meets of %v: %v, not %v", x, got, meets)
		}
	}
}

// someLists returns lists of different points of n, of all lengths, or all of
// them if they are few.
func someLists(source *rand.Rand, n int) [][]int {
	l := [][]int{nil, {}}
	for _, g := range permutations(source, n) {
		for k := range n + 1 {
			l = append(l, g[:k])
		}
	}
	return l
}

// P6.1: Traces.
func TestTraces(t *testing.T) {
	source := rand.New(rand.NewSource(3))
	for _, x := range samples() {
		for _, l := range someLists(source, x.V) {
			var places [][]int
			for _, block := range lists(x) {
				var found []int
				for k, p := range l {
					if slices.Contains(block, p) {
						found = append(found, k)
					}
				}
				places = append(places, found)
			}
			if got := incidence.Traces(x, l); !slices.Equal(got, numbers(places)) {
				t.Errorf("Traces of %v on %v: %v", x, l, got)
			}
		}
	}
}

// P6.1: there are no traces on other lists.
func TestTracesOnOthers(t *testing.T) {
	for _, x := range samples() {
		n := x.V
		others := [][]int{{0, 0}, {n - 1, n - 1}, append(points(n), 0), slices.Repeat(points(n), 5), points(n + 1), points(100)}
		for _, p := range []int{math.MinInt, -1, n, n + 1, 64, 1 << 32, math.MaxInt} {
			others = append(others, []int{p}, []int{0, p}, []int{p, 0}, append(points(n), p))
		}
		for _, l := range others {
			if got := incidence.Traces(x, l); len(got) != 0 {
				t.Errorf("Traces of %v on %v: %v", x, l, got)
			}
		}
	}
}
