package poly_test

import (
	"math/rand"
	"slices"
	"testing"

	"plexus/api"
	"plexus/field"
	"plexus/poly"
)

// longest is the greatest number of coefficients of a polynomial that is given.
const longest = 41

// sizes are the prime powers from 2 to 64.
var sizes = []int{2, 3, 4, 5, 7, 8, 9, 11, 13, 16, 17, 19, 23, 25, 27, 29, 31, 32, 37, 41, 43, 47, 49, 53, 59, 61, 64}

// ring calculates with polynomials in another way than the package: by tables,
// one coefficient of the result after the other. Its results are trimmed.
type ring struct {
	*testing.T
	f        api.Field
	q        int
	add, mul [][]int
	source   *rand.Rand
}

func newRing(t *testing.T, q int) ring {
	t.Helper()
	f, err := field.Make(q)
	if err != api.OK {
		t.Fatalf("Make(%d): error %d", q, err)
	}
	r := ring{T: t, f: f, q: q, source: rand.New(rand.NewSource(int64(q)))}
	for a := range q {
		r.add, r.mul = append(r.add, make([]int, q)), append(r.mul, make([]int, q))
		for b := range q {
			r.add[a][b], r.mul[a][b] = field.Add(f, a, b), field.Mul(f, a, b)
		}
	}
	return r
}

// forRings runs a test for each field, and in it with the numbers less than n.
func forRings(t *testing.T, n int, test func(r ring, i int)) {
	for _, q := range sizes {
		r := newRing(t, q)
		for i := range n {
			test(r, i)
		}
	}
}

func cut(a []int) []int {
	for len(a) > 0 && a[len(a)-1] == 0 {
		a = a[:len(a)-1]
	}
	return a
}

func (r ring) sum(a, b []int) []int {
	l := make([]int, max(len(a), len(b)))
	for i := range l {
		if i < len(a) {
			l[i] = a[i]
		}
		if i < len(b) {
			l[i] = r.add[l[i]][b[i]]
		}
	}
	return cut(l)
}

func (r ring) product(factors ...[]int) []int {
	whole := []int{1}
	for _, b := range factors {
		l := make([]int, len(whole)+len(b))
		for n := range l {
			for i := range min(n+1, len(whole)) {
				if n-i < len(b) {
					l[n] = r.add[l[n]][r.mul[whole[i]][b[n-i]]]
				}
			}
		}
		whole = cut(l)
	}
	return whole
}

// value sums the powers of x up.
func (r ring) value(a []int, x int) int {
	v, power := 0, 1
	for _, c := range a {
		v = r.add[v][r.mul[c][power]]
		power = r.mul[power][x]
	}
	return v
}

func (r ring) values(a, xs []int) []int {
	var ys []int
	for _, x := range xs {
		ys = append(ys, r.value(a, x))
	}
	return ys
}

// root returns x - a.
func (r ring) root(a int) []int { return []int{slices.Index(r.add[a], 0), 1} }

// withRoots returns the product of x - a for the elements a of l.
func (r ring) withRoots(l []int) []int {
	p := []int{1}
	for _, a := range l {
		p = r.product(p, r.root(a))
	}
	return p
}

// drawn returns n elements. Many of them are 0, also at the end.
func (r ring) drawn(n int) []int {
	l := make([]int, n)
	dense := r.source.Intn(4)
	for i := range l {
		if r.source.Intn(4) <= dense {
			l[i] = r.source.Intn(r.q)
		}
	}
	return l
}

// upTo returns a list of at most n elements.
func (r ring) upTo(n int) []int { return r.drawn(r.source.Intn(n + 1)) }

// other returns a list of at most n elements that is not 0.
func (r ring) other(n int) []int {
	l := r.drawn(1 + r.source.Intn(n))
	l[r.source.Intn(len(l))] = 1 + r.source.Intn(r.q-1)
	return l
}

// monic returns a monic polynomial of at most n elements, with its leading 1.
func (r ring) monic(n int) []int { return append(r.upTo(n-1), 1) }

// all returns all lists of n elements less than q.
func all(q, n int) [][]int {
	l := [][]int{nil}
	for range n {
		var longer [][]int
		for _, a := range l {
			for c := range q {
				longer = append(longer, append(slices.Clone(a), c))
			}
		}
		l = longer
	}
	return l
}

// check compares a polynomial with what it has to be.
func (r ring) check(what string, got, want []int, of ...[]int) {
	r.Helper()
	if !slices.Equal(got, want) {
		r.Errorf("%d elements: %s of %v: %v, not %v", r.q, what, of, got, want)
	}
}

// checkDivision compares what DivMod returns with what it has to be.
func (r ring) checkDivision(a, b, quotient, rest []int) {
	r.Helper()
	q, s, err := poly.DivMod(r.f, a, b)
	if !slices.Equal(q, quotient) || !slices.Equal(s, rest) || err != api.OK {
		r.Errorf("%d elements: %v by %v: %v, %v, error %d, not %v, %v", r.q, a, b, q, s, err, quotient, rest)
	}
}

func (r ring) interpolate(xs, ys []int) []int {
	r.Helper()
	p, err := poly.Interpolate(r.f, xs, ys)
	if err != api.OK {
		r.Errorf("%d elements: values %v at %v: error %d", r.q, ys, xs, err)
	}
	return p
}

// P4.1: the examples of the chapter.
func TestExamples(t *testing.T) {
	two, four, five := newRing(t, 2), newRing(t, 4), newRing(t, 5)
	two.checkDivision([]int{1, 0, 0, 1}, []int{1, 1}, []int{1, 1, 1}, nil)
	five.check("Interpolate", five.interpolate([]int{0, 1, 2}, []int{1, 2, 0}), []int{1, 0, 1})
	four.check("Minimal", poly.Minimal(four.f, 2), []int{1, 1, 1}, []int{2})
	four.check("Minimal", poly.Minimal(four.f, 1), []int{1, 1}, []int{1})
}

// P4.1: calculations that were made by hand.
func TestCalculations(t *testing.T) {
	five, nine := newRing(t, 5), newRing(t, 9)
	five.check("Add", poly.Add(five.f, []int{4, 3, 2}, []int{3, 3, 3, 0}), []int{2, 1})
	five.check("Mul", poly.Mul(five.f, []int{2, 3}, []int{4, 1, 2}), []int{3, 4, 2, 1})
	five.checkDivision([]int{1, 0, 0, 2}, []int{3, 0, 4}, []int{0, 3}, []int{1, 1})
	five.check("Gcd", poly.Gcd(five.f, []int{3, 0, 2}, []int{2, 1, 4, 3}), []int{4, 1})
	five.check("Roots", poly.Roots(five.f, []int{1, 0, 1}), []int{2, 3})
	nine.check("Mul", poly.Mul(nine.f, []int{3, 1}, []int{6, 1}), []int{1, 0, 1})
	nine.check("Minimal", poly.Minimal(nine.f, 4), []int{2, 1, 1})
	if v := poly.Eval(nine.f, []int{1, 2, 3}, 3); v != 4 {
		t.Errorf("9 elements: 1 + 2 x + 3 x^2 at 3: %d", v)
	}
}

// P4.1: Trim accepts any list.
func TestTrim(t *testing.T) {
	for _, c := range []struct{ list, want []int }{
		{nil, nil}, {[]int{}, nil}, {[]int{0}, nil}, {[]int{0, 0, 0}, nil}, {[]int{1}, []int{1}}, {[]int{0, 1}, []int{0, 1}},
		{[]int{0, 1, 0, 0}, []int{0, 1}}, {[]int{1, 0, 2, 0}, []int{1, 0, 2}}, {[]int{-7}, []int{-7}}, {[]int{5, -1 << 63, 0}, []int{5, -1 << 63}},
		{append(make([]int, 100000), 1<<62, 0), append(make([]int, 100000), 1<<62)}, {make([]int, 100000), nil},
	} {
		if got := poly.Trim(c.list); !slices.Equal(got, c.want) {
			t.Errorf("Trim of %d elements: %d elements", len(c.list), len(got))
		}
	}
}

// P4.1: Add and Mul of short polynomials, all pairs of them.
func TestShortSumsAndProducts(t *testing.T) {
	for q, n := range map[int]int{2: 5, 3: 3, 4: 3, 5: 2, 9: 2} {
		r := newRing(t, q)
		for _, a := range all(q, n) {
			for _, b := range all(q, n) {
				r.check("Add", poly.Add(r.f, a, b), r.sum(a, b), a, b)
				r.check("Mul", poly.Mul(r.f, a, b), r.product(a, b), a, b)
			}
		}
	}
}

// P4.1: Add and Mul of polynomials of all lengths.
func TestSumsAndProducts(t *testing.T) {
	forRings(t, longest+1, func(r ring, n int) {
		for _, b := range [][]int{nil, {0}, {1}, r.drawn(n), r.upTo(longest), r.other(longest), r.drawn(longest)} {
			a := r.drawn(n)
			r.check("Add", poly.Add(r.f, a, b), r.sum(a, b), a, b)
			r.check("Add", poly.Add(r.f, b, a), r.sum(a, b), b, a)
			r.check("Mul", poly.Mul(r.f, a, b), r.product(a, b), a, b)
			r.check("Mul", poly.Mul(r.f, b, a), r.product(a, b), b, a)
		}
	})
}

// P4.1: the sum of a polynomial and its negative is trimmed.
func TestSumsOfNegatives(t *testing.T) {
	forRings(t, longest+1, func(r ring, n int) {
		a := r.drawn(n)
		negative := make([]int, n)
		for i, c := range a {
			negative[i] = field.Neg(r.f, c)
		}
		r.check("Add", poly.Add(r.f, a, negative), nil, a, negative)
		if n > 3 {
			negative[2] = field.Sub(r.f, 1, a[2])
			r.check("Add", poly.Add(r.f, a, negative), []int{0, 0, 1}, a, negative)
		}
	})
}

// P4.1: Eval and Roots, also of 0 and of constants.
func TestValuesAndRoots(t *testing.T) {
	forRings(t, longest+1, func(r ring, n int) {
		for _, a := range [][]int{r.drawn(n), r.drawn(longest), make([]int, n), {r.source.Intn(r.q)}} {
			var roots []int
			for x := range r.q {
				want := r.value(a, x)
				if got := poly.Eval(r.f, a, x); got != want {
					r.Errorf("%d elements: %v at %d: %d, not %d", r.q, a, x, got, want)
				}
				if want == 0 {
					roots = append(roots, x)
				}
			}
			r.check("Roots", poly.Roots(r.f, a), roots, a)
		}
	})
}

// P4.1: DivMod refuses 0, whatever is divided.
func TestDivisionByZero(t *testing.T) {
	forRings(t, longest+1, func(r ring, n int) {
		for _, a := range [][]int{r.drawn(n), r.other(longest), nil} {
			if q, s, err := poly.DivMod(r.f, a, make([]int, n)); len(q) > 0 || len(s) > 0 || err != api.ErrZero {
				r.Errorf("%d elements: %v by 0: %v, %v, error %d", r.q, a, q, s, err)
			}
		}
	})
}

// P4.1: Interpolate refuses lists of different lengths and places that occur
// twice, wherever they are, and however long the lists are.
func TestInterpolateRefuses(t *testing.T) {
	refused := func(r ring, xs, ys []int) {
		if p, err := poly.Interpolate(r.f, xs, ys); len(p) > 0 || err != api.ErrArg {
			r.Errorf("%d elements: %d values at %d places: %v, error %d", r.q, len(ys), len(xs), p, err)
		}
	}
	forRings(t, 1, func(r ring, _ int) {
		xs := r.source.Perm(r.q)
		for n := range r.q + 1 {
			refused(r, xs[:n], r.drawn(n+1))
			refused(r, xs[:r.q-n], r.drawn(r.q+1))
			if n > 0 {
				refused(r, xs[:n], r.drawn(n-1))
				refused(r, xs[:n], nil)
				refused(r, append(slices.Clone(xs[:n]), xs[r.source.Intn(n)]), r.drawn(n+1))
				refused(r, append(slices.Clone(xs[:n]), xs[n-1]), make([]int, n+1))
				refused(r, append([]int{xs[n-1]}, xs...), r.values([]int{0, 1}, append([]int{xs[n-1]}, xs...)))
			}
		}
		long := r.drawn(200000)
		refused(r, long, long)
		refused(r, nil, long)
	})
}

// P4.1: values that are given with zeros at their end, and the value 0 alone.
func TestInterpolateIsTrimmed(t *testing.T) {
	forRings(t, 1, func(r ring, _ int) {
		for n := range r.q + 1 {
			xs := r.source.Perm(r.q)[:n]
			r.check("Interpolate", r.interpolate(xs, make([]int, n)), nil, xs)
			if n > 0 {
				r.check("Interpolate", r.interpolate(xs, slices.Repeat([]int{r.q - 1}, n)), []int{r.q - 1}, xs)
			}
		}
	})
}

// calls are calls of all functions that return polynomials or lists.
func calls(f api.Field, a, b []int, x int) [][]int {
	quotient, rest, _ := poly.DivMod(f, a, b)
	l, _ := poly.Interpolate(f, a, b)
	return [][]int{
		poly.Trim(a), poly.Trim(b), poly.Add(f, a, b), poly.Mul(f, a, b), quotient, rest,
		poly.Gcd(f, a, b), poly.Roots(f, a), l, poly.Minimal(f, x), {poly.Eval(f, a, x)},
	}
}

// D8, and results of memory of their own: writing to a result, also behind its
// end, changes neither the arguments nor another result.
func TestMemoryIsNotShared(t *testing.T) {
	forRings(t, 60, func(r ring, i int) {
		a, b := r.upTo(longest), r.upTo(longest)
		if i%3 == 0 {
			a, b = r.source.Perm(r.q), r.drawn(r.q)
		}
		switch i % 5 {
		case 0:
			a = append(r.monic(5), 0, 0)
		case 1:
			b = make([]int, i%4)
		case 2:
			a = make([]int, i%4)
		case 3:
			b = []int{1}
		}
		oldA, oldB, oldMod := slices.Clone(a), slices.Clone(b), slices.Clone(r.f.Mod)
		wants, results := calls(r.f, a, b, i%r.q), calls(r.f, a, b, i%r.q)
		for j, l := range results {
			r.check("call", l, wants[j], a, b)
			l = l[:cap(l)]
			for k := range l {
				l[k] = -1
			}
		}
		r.check("argument", a, oldA)
		r.check("argument", b, oldB)
		r.check("field", r.f.Mod, oldMod)
		for j, l := range calls(r.f, a, b, i%r.q) {
			r.check("later call", l, wants[j], a, b)
		}
	})
}

// P1: nothing panics or runs on, whatever the arguments are.
func TestNothingPanics(t *testing.T) {
	far := []int{-1 << 63, -65, -1, 0, 1, 2, 5, 64, 65, 1 << 32, 1<<63 - 1}
	var fields []api.Field
	for _, q := range []int{2, 4, 9, 61} {
		fields = append(fields, newRing(t, q).f)
	}
	fields = append(fields, api.Field{P: 4, E: 1, Mod: []int{0}}, api.Field{P: 2, E: 2, Mod: []int{0, 0}}, api.Field{P: 2, E: 3, Mod: []int{1, 0, 0}},
		api.Field{P: 3, E: 2, Mod: []int{-1 << 63, 1<<63 - 1}}, api.Field{P: 63, E: 1, Mod: []int{7}}, api.Field{P: 2, E: 1})
	for _, p := range far {
		for _, e := range far {
			fields = append(fields, api.Field{P: p, E: e}, api.Field{P: p, E: e, Mod: []int{0}}, api.Field{P: p, E: e, Mod: []int{1, 1}})
		}
	}
	lists := [][]int{nil, {0}, {0, 0}, far, slices.Repeat(far, 4), {1, 2, 4}, {6, 3, 0}, {3, -1}, {-2, 3}, {1, 0, 0, 64, 0}}
	for _, f := range fields {
		for _, a := range lists {
			for _, b := range lists {
				calls(f, a, b, 2)
			}
		}
		for _, x := range far {
			poly.Minimal(f, x)
			poly.Eval(f, far, x)
		}
	}
}
