package space_test

import (
	"slices"
	"testing"

	"plexus/api"
	"plexus/space"
)

// sums returns that many linear combinations of rows.
func (l lab) sums(n int, rows [][]int, many int) [][]int {
	var found [][]int
	for range many {
		v := make([]int, n)
		for _, row := range rows {
			v = l.plus(v, l.times(l.source.Intn(l.q), row))
		}
		found = append(found, v)
	}
	return found
}

// someReduced returns a reduced matrix of any rank, and a matrix with at most
// so many rows that has the same span.
func (l lab) someReduced(n, most int) (form, rows [][]int) {
	form = l.reduced(n, l.from(0, n))
	many := l.from(len(form), most)
	if many == 0 {
		return form, nil
	}
	return form, l.mixed(n, form, many)
}

// P5.2: of up to 64 rows that were mixed from a reduced matrix it is found again.
func TestReduceFindsTheForm(t *testing.T) {
	forLabs(t, func(l lab, n int) {
		for _, rank := range []int{0, n / 2, n} {
			form := l.reduced(n, rank)
			if !isReduced(form) {
				t.Fatalf("%d elements: %v", l.q, form)
			}
			for _, many := range []int{max(rank, 1), maxRows} {
				rows := l.mixed(n, form, many)
				l.check("Reduce", space.Reduce(l.f, rows), form, rows)
				if space.Rank(l.f, rows) != rank {
					l.Errorf("%d elements: rank %d of %v", l.q, space.Rank(l.f, rows), rows)
				}
			}
			l.check("Reduce", space.Reduce(l.f, form), form, form)
		}
	})
}

// P5.2: of any rows the form is reduced and contains each of them, it has no
// more rows than they are, and it stays through operations on them.
func TestReduceIsKept(t *testing.T) {
	forLabs(t, func(l lab, n int) {
		rows := l.matrix(n, l.from(1, 30))
		form := space.Reduce(l.f, rows)
		if !isReduced(form) || len(form) > len(rows) {
			l.Errorf("%d elements: form %v of %v", l.q, form, rows)
			return
		}
		for _, v := range rows {
			if !l.has(form, v) {
				l.Errorf("%d elements: %v is not in the span of %v", l.q, v, form)
			}
		}
		for i := range rows {
			l.operate(rows, i, l.source.Intn(len(rows)))
			l.check("Reduce", space.Reduce(l.f, rows), form, rows)
		}
	})
}

// P5.3.
func TestKernels(t *testing.T) {
	forLabs(t, func(l lab, n int) {
		for _, most := range []int{n, maxRows} {
			form, rows := l.someReduced(n, most)
			kernel := space.Kernel(l.f, n, rows)
			if !isReduced(kernel) || len(kernel)+len(form) != n {
				l.Errorf("%d elements: kernel %v of %v", l.q, kernel, rows)
			}
			for _, x := range append(l.sums(n, kernel, 2), kernel...) {
				if pivot(l.product(rows, x)) >= 0 || pivot(space.Apply(l.f, rows, x)) >= 0 {
					l.Errorf("%d elements: %v times %v is not 0", l.q, rows, x)
				}
			}
			l.check("Kernel of the kernel", space.Kernel(l.f, n, kernel), form, rows)
		}
	})
}

// P5.3: the kernels of nothing and of everything.
func TestKernelsAtTheEnds(t *testing.T) {
	forLabs(t, func(l lab, n int) {
		l.check("Kernel", space.Kernel(l.f, n, nil), identity(n))
		l.check("Kernel", space.Kernel(l.f, n, make([][]int, 0, 3)), identity(n))
		l.check("Kernel", space.Kernel(l.f, n, slices.Repeat([][]int{make([]int, n)}, maxRows)), identity(n))
		l.check("Kernel", space.Kernel(l.f, n, l.mixed(n, identity(n), n)), nil)
	})
}

// P5.1: Apply.
func TestProducts(t *testing.T) {
	forLabs(t, func(l lab, n int) {
		for _, many := range []int{0, 1, n, maxRows} {
			rows, x := l.matrix(n, many), l.drawn(n)
			l.checkProduct(rows, x, l.product(rows, x))
		}
	})
}

// P5.4: equations are mixed from reduced ones, whose solution can be seen. With
// the equation 0 = 1 among them there is none.
func TestEquationsThatWereMixed(t *testing.T) {
	forLabs(t, func(l lab, n int) {
		for _, most := range []int{n + 1, maxRows} {
			form := l.reduced(n, l.from(0, n))
			values := l.drawn(len(form))
			x := make([]int, n)
			var equations [][]int
			for i, row := range form {
				x[pivot(row)] = values[i]
				equations = append(equations, append(slices.Clone(row), values[i]))
			}
			wrong := append(make([]int, n), 1)
			rows, b := cut(l.mixed(n+1, equations, l.from(max(len(form), 1), most)))
			l.checkSolution(rows, b, x, api.OK)
			rows, b = cut(l.mixed(n+1, append(equations, wrong), l.from(len(form)+1, most)))
			l.checkSolution(rows, b, nil, api.ErrNone)
		}
		l.checkSolution(nil, nil, make([]int, n), api.OK)
	})
}

// cut returns a matrix without its last column, and this column.
func cut(m [][]int) (rows [][]int, last []int) {
	for _, row := range m {
		n := len(row) - 1
		rows, last = append(rows, row[:n:n]), append(last, row[n])
	}
	return rows, last
}

// P5.4: any equations with any numbers.
func TestEquations(t *testing.T) {
	forLabs(t, func(l lab, n int) {
		_, rows := l.someReduced(n, api.MaxLength)
		l.checkSolvable(n, rows, l.product(rows, l.drawn(n)), true)
		b := l.drawn(len(rows))
		if len(rows) > 0 && pivot(b) >= 0 {
			// A vector that is taken to 0 from the other side, but not by b.
			against := space.Kernel(l.f, len(rows), columns(n, rows))
			solvable := pivot(l.product(against, b)) < 0
			l.checkSolvable(n, rows, b, solvable)
		}
	})
}

// checkSolvable checks whether there is a solution, and if so, that it solves the
// equations and is 0 where no pivot is.
func (l lab) checkSolvable(n int, rows [][]int, b []int, solvable bool) {
	l.Helper()
	x, err := space.Solve(l.f, n, rows, b)
	if !solvable {
		if err != api.ErrNone || len(x) > 0 {
			l.Errorf("%d elements: %v for %v: %v, error %d", l.q, b, rows, x, err)
		}
		return
	}
	if err != api.OK || len(x) != n || !slices.Equal(l.product(rows, x), b) || !onlyAt(x, pivots(space.Reduce(l.f, rows))) {
		l.Errorf("%d elements: %v for %v: %v, error %d", l.q, b, rows, x, err)
	}
}

// P5.1: Has, for linear combinations and for what is none.
func TestMembers(t *testing.T) {
	forLabs(t, func(l lab, n int) {
		for _, most := range []int{n, maxRows} {
			form, rows := l.someReduced(n, most)
			for _, v := range append(l.sums(n, rows, 3), make([]int, n)) {
				l.checkHas(rows, v, true)
				if len(form) == n {
					continue
				}
				// A vector that is not 0, but 0 at all pivots, is no combination.
				other := l.drawn(n)
				for _, row := range form {
					other[pivot(row)] = 0
				}
				l.checkHas(rows, l.plus(v, other), pivot(other) < 0)
			}
		}
	})
}

// parts returns two matrices with at most so many rows, what they have in common
// and what they span together; these are made of parts of a basis.
func (l lab) parts(n, most int) (a, b, common, together [][]int) {
	basis := l.mixed(n, identity(n), n)
	end := l.from(0, n)
	i := l.from(0, end)
	j := l.from(i, end)
	some := func(rows [][]int) [][]int {
		if len(rows) == 0 {
			return nil
		}
		return l.mixed(n, rows, l.from(len(rows), most))
	}
	return some(basis[:j]), some(basis[i:end]), basis[i:j], basis[:end]
}

// checkSubspace checks that m is the reduced matrix with the span of rows, which
// are independent.
func (l lab) checkSubspace(what string, m, rows [][]int) {
	l.Helper()
	if !isReduced(m) || len(m) != len(rows) {
		l.Errorf("%d elements: %s: %v, but it is the span of %v", l.q, what, m, rows)
		return
	}
	for _, v := range rows {
		if !l.has(m, v) {
			l.Errorf("%d elements: %s: %v, without %v", l.q, what, m, v)
		}
	}
}

// P5.5: what is joined and what is common, the ranks, and the kernels.
func TestSubspaces(t *testing.T) {
	forLabs(t, func(l lab, n int) {
		for _, most := range []int{n, 32} {
			a, b, common, together := l.parts(n, most)
			join, meet := space.Join(l.f, a, b), space.Meet(l.f, n, a, b)
			l.checkSubspace("Join", join, together)
			l.checkSubspace("Meet", meet, common)
			l.check("Join", space.Join(l.f, b, a), join, b, a)
			l.check("Meet", space.Meet(l.f, n, b, a), meet, b, a)
			if len(join)+len(meet) != space.Rank(l.f, a)+space.Rank(l.f, b) {
				l.Errorf("%d elements: ranks %d and %d of %v and %v", l.q, len(join), len(meet), a, b)
			}
			kernels := space.Join(l.f, space.Kernel(l.f, n, a), space.Kernel(l.f, n, b))
			l.check("Meet", meet, space.Kernel(l.f, n, kernels), a, b)
		}
	})
}

// P5.5: Meet has no other limit than matrices have.
func TestMeetOfManyRows(t *testing.T) {
	for _, q := range []int{2, 3, 64} {
		l := newLab(t, q)
		for n := 1; n <= api.MaxLength; n++ {
			a, b, common, _ := l.parts(n, maxRows)
			l.checkSubspace("Meet", space.Meet(l.f, n, a, b), common)
		}
	}
}

// checkModular checks the modular law for the span of a within that of c.
func (l lab) checkModular(n int, a, b, c [][]int) {
	l.Helper()
	left := space.Join(l.f, a, space.Meet(l.f, n, b, c))
	right := space.Meet(l.f, n, space.Join(l.f, a, b), c)
	l.check("modular law", left, right, a, b, c)
}

// P5.5: the modular law.
func TestModularLaw(t *testing.T) {
	forLabs(t, func(l lab, n int) {
		_, c := l.someReduced(n, 32)
		a, _, _, _ := l.parts(n, 32)
		l.checkModular(n, l.sums(n, c, l.from(0, 5)), l.matrix(n, l.from(0, n)), c)
		l.checkModular(n, space.Meet(l.f, n, a, c), l.matrix(n, l.from(0, 5)), c)
	})
}

// P5.5: the modular law for all subspaces of a small space.
func TestModularLawOfSmallSubspaces(t *testing.T) {
	for q, n := range map[int]int{2: 3, 3: 2, 4: 2, 5: 2} {
		l := newLab(t, q)
		var subspaces [][][]int
		for rank := range n + 1 {
			for _, m := range matrices(q, n, rank) {
				if isReduced(m) {
					subspaces = append(subspaces, m)
				}
			}
		}
		for _, a := range subspaces {
			for _, c := range subspaces {
				if !equal(space.Join(l.f, a, c), c) {
					continue
				}
				for _, b := range subspaces {
					l.checkModular(n, a, b, c)
				}
			}
		}
	}
}

// P5.6: inverse matrices undo products, and are undone by them.
func TestInverses(t *testing.T) {
	forLabs(t, func(l lab, n int) {
		m := l.mixed(n, identity(n), n)
		inverse, err := space.Inverse(l.f, m)
		if err != api.OK || len(inverse) != n || space.Rank(l.f, m) != n {
			l.Fatalf("%d elements: inverse of %v: %v, error %d", l.q, m, inverse, err)
		}
		for _, x := range append(identity(n), l.drawn(n), l.drawn(n)) {
			if !slices.Equal(space.Apply(l.f, inverse, space.Apply(l.f, m, x)), x) {
				l.Errorf("%d elements: %v does not undo the product of %v and %v", l.q, inverse, m, x)
			}
			if !slices.Equal(l.product(m, l.product(inverse, x)), x) {
				l.Errorf("%d elements: %v is not undone by the product of %v and %v", l.q, inverse, m, x)
			}
		}
		l.checkInverse(inverse, m)
		l.checkInverse(identity(n), identity(n))
	})
}

// P5.6: matrices of any lesser rank have no inverse.
func TestNoInverses(t *testing.T) {
	forLabs(t, func(l lab, n int) {
		for _, rank := range []int{0, l.from(0, n-1), n - 1} {
			m := l.mixed(n, l.reduced(n, rank), n)
			l.checkInverse(m, nil)
		}
		m := l.matrix(n, n)
		_, err := space.Inverse(l.f, m)
		if (err == api.OK) != (space.Rank(l.f, m) == n) {
			l.Errorf("%d elements: rank %d of %v, error %d", l.q, space.Rank(l.f, m), m, err)
		}
	})
}
