package space_test

import (
	"math"
	"slices"
	"testing"

	"plexus/api"
	"plexus/field"
	"plexus/space"
)

// P5.1: the examples of the chapter.
func TestExamples(t *testing.T) {
	two, three := newLab(t, 2), newLab(t, 3)
	rows := [][]int{{1, 1, 0}, {0, 1, 1}, {1, 0, 1}}
	two.check("Reduce", space.Reduce(two.f, rows), [][]int{{1, 0, 1}, {0, 1, 1}}, rows)
	two.check("Kernel", space.Kernel(two.f, 3, rows), [][]int{{1, 1, 1}}, rows)
	two.checkSolution(rows, []int{1, 0, 1}, []int{1, 0, 0}, api.OK)
	two.checkSolution(rows, []int{1, 0, 0}, nil, api.ErrNone)
	three.checkInverse([][]int{{1, 1}, {1, 2}}, [][]int{{2, 2}, {2, 1}})
	meet := space.Meet(three.f, 3, [][]int{{1, 0, 0}, {0, 1, 0}}, [][]int{{0, 1, 1}, {0, 0, 1}})
	three.check("Meet", meet, [][]int{{0, 1, 0}})
}

// P5.1: calculations that were made by hand.
func TestCalculations(t *testing.T) {
	four, five := newLab(t, 4), newLab(t, 5)
	rows := [][]int{{2, 4, 1}, {1, 2, 4}}
	five.check("Reduce", space.Reduce(five.f, rows), [][]int{{1, 2, 0}, {0, 0, 1}}, rows)
	five.check("Kernel", space.Kernel(five.f, 3, rows), [][]int{{1, 2, 0}}, rows)
	five.checkProduct(rows, []int{1, 3, 4}, []int{3, 3})
	five.checkSolution(rows, []int{3, 3}, []int{2, 0, 4}, api.OK)
	five.check("Join", space.Join(five.f, [][]int{{1, 2, 3}}, [][]int{{2, 4, 0}}), [][]int{{1, 2, 0}, {0, 0, 1}})
	five.checkInverse([][]int{{0, 2}, {3, 1}}, [][]int{{4, 2}, {3, 0}})
	four.check("Reduce", space.Reduce(four.f, [][]int{{2, 3}}), [][]int{{1, 2}})
	four.checkInverse([][]int{{2, 1}, {3, 1}}, [][]int{{1, 1}, {3, 2}})
}

func (l lab) checkProduct(rows [][]int, x, want []int) {
	l.Helper()
	if got := space.Apply(l.f, rows, x); !slices.Equal(got, want) {
		l.Errorf("%d elements: %v times %v: %v, not %v", l.q, rows, x, got, want)
	}
}

func (l lab) checkSolution(rows [][]int, b, want []int, errno api.Errno) {
	l.Helper()
	n := len(want)
	if len(rows) > 0 {
		n = len(rows[0])
	}
	if x, err := space.Solve(l.f, n, rows, b); !slices.Equal(x, want) || err != errno {
		l.Errorf("%d elements: %v for %v: %v, error %d, not %v, %d", l.q, b, rows, x, err, want, errno)
	}
}

// checkInverse checks the inverse of m, where nil stands for none.
func (l lab) checkInverse(m, want [][]int) {
	l.Helper()
	errno := api.OK
	if want == nil {
		errno = api.ErrNone
	}
	if got, err := space.Inverse(l.f, m); !equal(got, want) || err != errno {
		l.Errorf("%d elements: inverse of %v: %v, error %d, not %v", l.q, m, got, err, want)
	}
}

func (l lab) checkHas(rows [][]int, v []int, want bool) {
	l.Helper()
	if got := space.Has(l.f, rows, v); got != want {
		l.Errorf("%d elements: %v in the span of %v: %v", l.q, v, rows, got)
	}
}

// P5.1: Valid accepts all matrices up to the limits, over all fields.
func TestMatricesAreValid(t *testing.T) {
	forLabs(t, func(l lab, n int) {
		top := slices.Repeat([]int{l.q - 1}, n)
		for _, rows := range [][][]int{nil, {}, l.matrix(n, 1), {top}, {make([]int, n)}, l.matrix(n, 63), l.matrix(n, 64), slices.Repeat([][]int{top}, 64)} {
			if !space.Valid(l.f, n, rows) {
				t.Errorf("%d elements: %d rows of width %d are not valid", l.q, len(rows), n)
			}
		}
	})
}

// P5.1: Valid refuses everything else, wherever it is wrong.
func TestOthersAreNotValid(t *testing.T) {
	refused := func(l lab, n int, rows [][]int) {
		if space.Valid(l.f, n, rows) {
			t.Errorf("%d elements: valid for %d: %v", l.q, n, rows)
		}
	}
	forLabs(t, func(l lab, n int) {
		refused(l, n, l.matrix(n, maxRows+1))
		refused(l, n, make([][]int, 1))
		refused(l, n, slices.Repeat([][]int{make([]int, n)}, 1000))
		for _, wrong := range []int{n - 1, n + 1, 0, -n, n + 1<<32} {
			refused(l, wrong, l.matrix(n, 1))
		}
		rows := l.matrix(n, l.from(1, maxRows))
		i, j := l.source.Intn(len(rows)), l.source.Intn(n)
		for _, row := range [][]int{nil, rows[i][1:], append(slices.Clone(rows[i]), 0)} {
			changed := slices.Clone(rows)
			changed[i] = row
			refused(l, n, changed)
		}
		for _, c := range []int{-1, l.q, l.q + 1, -l.q, math.MinInt, math.MaxInt} {
			changed := cloned(rows)
			changed[i][j] = c
			refused(l, n, changed)
		}
	})
	for _, n := range []int{math.MinInt, -1, 0, 25, 64, math.MaxInt} {
		refused(newLab(t, 2), n, nil)
		refused(newLab(t, 2), n, [][]int{{}})
		refused(newLab(t, 2), n, [][]int{make([]int, max(0, min(n, 100)))})
	}
}

// P5.1: Valid refuses what is no field, even if there are no rows.
func TestFieldsOfMatrices(t *testing.T) {
	for _, f := range notFields() {
		if space.Valid(f, 2, nil) || space.Valid(f, 2, [][]int{{0, 1}}) {
			t.Errorf("valid: %v", f)
		}
	}
}

// notFields has no valid field.
func notFields() []api.Field {
	far := []int{math.MinInt, -1, 0, 1, 4, 1 << 32, math.MaxInt}
	l := []api.Field{
		{}, {P: 2, E: 1}, {P: 2, E: 1, Mod: []int{1}}, {P: 6, E: 1, Mod: []int{0}}, {P: 67, E: 1, Mod: []int{0}},
		{P: 2, E: 2, Mod: []int{0, 1}}, {P: 2, E: 2, Mod: []int{0, 0}}, {P: 2, E: 3, Mod: []int{1, 0, 1}}, {P: 2, E: 2, Mod: []int{math.MinInt, math.MaxInt}},
	}
	for _, p := range far {
		l = append(l, api.Field{P: p, E: 1, Mod: []int{0}}, api.Field{P: 2, E: p, Mod: []int{1, 1}}, api.Field{P: p, E: p, Mod: []int{1}})
	}
	return l
}

// small are numbers of elements, lengths and numbers of rows for which all
// matrices are looked at.
var small = []struct{ q, n, rows int }{
	{2, 1, 0}, {2, 3, 0}, {3, 2, 0}, {2, 1, 1}, {2, 1, 4}, {2, 4, 1}, {2, 2, 3}, {2, 3, 2}, {2, 3, 3}, {2, 4, 3}, {2, 2, 5},
	{3, 1, 2}, {3, 3, 1}, {3, 2, 2}, {3, 3, 2}, {3, 2, 3}, {4, 1, 3}, {4, 3, 1}, {4, 2, 2}, {5, 1, 2}, {5, 2, 2}, {7, 2, 1}, {8, 2, 1}, {9, 2, 1},
}

func forSmall(t *testing.T, test func(l lab, n int, rows [][]int)) {
	for _, s := range small {
		l := newLab(t, s.q)
		for _, rows := range matrices(s.q, s.n, s.rows) {
			test(l, s.n, rows)
		}
	}
}

// P5.1 and P5.2: Reduce, Rank and Has of all small matrices.
func TestSmallSpans(t *testing.T) {
	forSmall(t, func(l lab, n int, rows [][]int) {
		span := l.span(n, rows)
		form := l.form(span)
		l.check("Reduce", space.Reduce(l.f, rows), form, rows)
		if rank := space.Rank(l.f, rows); rank != len(form) {
			l.Errorf("%d elements: rank %d of %v", l.q, rank, rows)
		}
		inside := map[string]bool{}
		for _, v := range span {
			inside[text(v)] = true
		}
		for _, v := range all(l.q, n) {
			l.checkHas(rows, v, inside[text(v)])
		}
	})
}

// P5.1, P5.3 and P5.4: Apply, Kernel and Solve of all small matrices: all
// vectors with each product are known.
func TestSmallEquations(t *testing.T) {
	forSmall(t, func(l lab, n int, rows [][]int) {
		places := pivots(l.form(l.span(n, rows)))
		having := map[string][][]int{}
		for _, x := range all(l.q, n) {
			b := l.product(rows, x)
			l.checkProduct(rows, x, b)
			having[text(b)] = append(having[text(b)], x)
		}
		l.check("Kernel", space.Kernel(l.f, n, rows), l.form(having[text(make([]int, len(rows)))]), rows)
		for _, b := range all(l.q, len(rows)) {
			var want []int
			errno := api.ErrNone
			for _, x := range having[text(b)] {
				if onlyAt(x, places) {
					want, errno = x, api.OK
				}
			}
			l.checkSolution(rows, b, want, errno)
		}
	})
}

// onlyAt reports whether v is 0 outside of the places.
func onlyAt(v, places []int) bool {
	for i, c := range v {
		if c != 0 && !slices.Contains(places, i) {
			return false
		}
	}
	return true
}

// P5.1 and P5.5: Join and Meet of all pairs of small matrices.
func TestSmallSubspaces(t *testing.T) {
	for _, s := range []struct{ q, n, rows int }{{2, 1, 1}, {2, 2, 2}, {2, 3, 2}, {2, 4, 1}, {3, 2, 1}, {3, 2, 2}, {3, 3, 1}, {4, 2, 1}, {5, 2, 1}} {
		l := newLab(t, s.q)
		subspaces := append(matrices(s.q, s.n, s.rows), nil)
		spans := map[int][][]int{}
		for i, rows := range subspaces {
			spans[i] = l.span(s.n, rows)
		}
		for i, a := range subspaces {
			for j, b := range subspaces {
				both := slices.Concat(a, b)
				l.check("Join", space.Join(l.f, a, b), l.form(l.span(s.n, both)), a, b)
				l.check("Meet", space.Meet(l.f, s.n, a, b), l.form(common(spans[i], spans[j])), a, b)
			}
		}
	}
}

// common returns the vectors that are in both lists.
func common(a, b [][]int) [][]int {
	inside := map[string]bool{}
	for _, v := range a {
		inside[text(v)] = true
	}
	var found [][]int
	for _, v := range b {
		if inside[text(v)] {
			found = append(found, v)
		}
	}
	return found
}

// determinant is the sum of the products along all permutations, with signs.
func (l lab) determinant(m [][]int) int {
	if len(m) == 0 {
		return 1
	}
	sum := 0
	for i, c := range m[0] {
		var minor [][]int
		for _, row := range m[1:] {
			minor = append(minor, slices.Concat(row[:i], row[i+1:]))
		}
		product := l.mul[c][l.determinant(minor)]
		if i%2 == 1 {
			product = field.Neg(l.f, product)
		}
		sum = l.add[sum][product]
	}
	return sum
}

// P5.1 and P5.6: Inverse of all small matrices.
func TestSmallInverses(t *testing.T) {
	for _, s := range []struct{ q, n int }{{2, 1}, {2, 2}, {2, 3}, {3, 1}, {3, 2}, {4, 1}, {4, 2}, {5, 2}, {7, 2}, {64, 1}, {61, 1}} {
		l := newLab(t, s.q)
		for _, m := range matrices(s.q, s.n, s.n) {
			if l.determinant(m) == 0 {
				l.checkInverse(m, nil)
				continue
			}
			inverse, err := space.Inverse(l.f, m)
			if err != api.OK || len(inverse) != s.n {
				t.Errorf("%d elements: inverse of %v: %v, error %d", s.q, m, inverse, err)
				continue
			}
			l.check("product", l.productOf(m, inverse), identity(s.n), m, inverse)
			l.check("product", l.productOf(inverse, m), identity(s.n), inverse, m)
		}
	}
}

// productOf returns the product of two square matrices.
func (l lab) productOf(a, b [][]int) [][]int {
	var product [][]int
	for _, column := range columns(len(b), b) {
		product = append(product, l.product(a, column))
	}
	return columns(len(a), product)
}
