package incidence_test

import (
	"math"
	"math/rand"
	"slices"
	"testing"

	"plexus/api"
	"plexus/incidence"
)

// call is what all functions return for the same arguments.
type call struct {
	structures []api.Inc
	rows       [][]int
	traces     []uint64
	texts      []string
	errs       []api.Errno
}

func callAll(x api.Inc, g []int, p int, l [][]int, s string) call {
	incidence.Valid(x)
	made, errMade := incidence.Make(p, l)
	dual, errDual := incidence.Dual(x)
	derived, errDerived := incidence.Derived(x, p)
	residual, errResidual := incidence.Residual(x, p)
	parsed, errParsed := incidence.Parse(s)
	return call{
		structures: []api.Inc{made, incidence.Image(x, g), incidence.Complement(x), dual, derived, residual, parsed},
		rows:       slices.Concat([][]int{incidence.Degrees(x)}, incidence.Pairs(x), incidence.Meets(x)),
		traces:     incidence.Traces(x, g),
		texts:      []string{incidence.Text(x)},
		errs:       []api.Errno{errMade, errDual, errDerived, errResidual, errParsed},
	}
}

func (c call) equal(d call) bool {
	return slices.EqualFunc(c.structures, d.structures, same) && sameRows(c.rows, d.rows) && slices.Equal(c.traces, d.traces) &&
		slices.Equal(c.texts, d.texts) && slices.Equal(c.errs, d.errs)
}

func fill[T any](l []T, with T) {
	l = l[:cap(l)]
	for i := range l {
		l[i] = with
	}
}

// spoil writes to all results, also behind their ends, one after the other, and
// reports whether what is still to come stays as it is.
func (c call) spoil(want call) bool {
	kept := true
	for i, x := range c.structures {
		kept = kept && same(x, want.structures[i])
		fill(x.B, math.MaxUint64)
	}
	for i, row := range c.rows {
		kept = kept && slices.Equal(row, want.rows[i])
		fill(row, -1)
	}
	kept = kept && slices.Equal(c.traces, want.traces)
	fill(c.traces, math.MaxUint64)
	return kept
}

// P6.1 (F6), and results of memory of their own.
func TestMemoryIsNotShared(t *testing.T) {
	source := rand.New(rand.NewSource(9))
	for _, x := range samples() {
		// A list that is no permutation as well, since there the image is x.
		for _, g := range append(permutations(source, x.V), points(x.V+1)) {
			// There is room behind the arguments, which has to stay as it is.
			roomy := append(slices.Clone(x.B), 7, 8, 9)
			arguments := api.Inc{V: x.V, B: roomy[:len(x.B)]}
			room, list := slices.Clone(roomy), append(slices.Clone(g), 7, 8)
			l := lists(x)
			p, s := source.Intn(x.V), incidence.Text(x)
			want := callAll(x, g, p, l, s)
			got := callAll(arguments, list[:len(g)], p, l, s)
			if !got.spoil(want) {
				t.Errorf("results for %v share memory", x)
			}
			if !slices.Equal(roomy, room) || !slices.Equal(list, append(slices.Clone(g), 7, 8)) || !sameRows(l, lists(x)) {
				t.Errorf("arguments were modified: %v, %v, %v", roomy, list, l)
			}
			if !callAll(arguments, g, p, l, s).equal(want) {
				t.Errorf("results for %v have changed", x)
			}
		}
	}
}

// P1: nothing panics or runs on, whatever the arguments are.
func TestNothingPanics(t *testing.T) {
	numbers := []int{math.MinInt, -1, 0, 1, 2, 15, 16, 17, 63, 64, 65, 1 << 32, math.MaxInt}
	l := [][]int{nil, {0}, {1, 0}, {2, 1, 0}, {0, 0}, {-1}, numbers, points(16), points(17), points(200)}
	texts := []string{"", "3: 0,1", "x", "3: \xff", "16: 99999999999999999999"}
	for i, x := range append(notStructures(), samples()...) {
		for j, p := range numbers {
			for k, g := range append(l, points(min(max(x.V, 0), 300))) {
				callAll(x, g, p, l[:j%len(l)], texts[(i+j+k)%len(texts)])
			}
		}
	}
}

// What is not valid has results that are zero values, or errors.
func TestOthersHaveNoResults(t *testing.T) {
	for _, x := range notStructures() {
		c := callAll(x, points(min(max(x.V, 0), 300)), 0, nil, "")
		for i, y := range c.structures {
			if y.V != 0 || len(y.B) != 0 {
				t.Errorf("structure %d for %v: %v", i, x, y)
			}
		}
		if len(c.rows) != 1 || len(c.rows[0]) != 0 || len(c.traces) != 0 || c.texts[0] != "" || slices.Contains(c.errs, api.OK) {
			t.Errorf("results for %v: %v", x, c)
		}
	}
}
