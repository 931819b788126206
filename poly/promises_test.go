package poly_test

import (
	"slices"
	"testing"

	"plexus/api"
	"plexus/field"
	"plexus/poly"
)

// P4.2: the axioms of a ring.
func TestRing(t *testing.T) {
	forRings(t, 20, func(r ring, _ int) {
		add := func(a, b []int) []int { return poly.Add(r.f, a, b) }
		mul := func(a, b []int) []int { return poly.Mul(r.f, a, b) }
		a, b, c := r.upTo(14), r.upTo(14), r.upTo(14)
		r.check("a + b", add(a, b), add(b, a), a, b)
		r.check("(a + b) + c", add(add(a, b), c), add(a, add(b, c)), a, b, c)
		r.check("a b", mul(a, b), mul(b, a), a, b)
		r.check("(a b) c", mul(mul(a, b), c), mul(a, mul(b, c)), a, b, c)
		r.check("a (b + c)", mul(a, add(b, c)), add(mul(a, b), mul(a, c)), a, b, c)
		r.check("a + 0", add(a, nil), cut(a), a)
		r.check("a 1", mul(a, []int{1, 0}), cut(a), a)
	})
}

// P4.2: degrees of products, values of sums and products.
func TestDegreesAndValues(t *testing.T) {
	forRings(t, 20, func(r ring, _ int) {
		a, b := r.other(longest), r.other(longest)
		sum, product := poly.Add(r.f, a, b), poly.Mul(r.f, a, b)
		if degree := len(cut(a)) + len(cut(b)) - 2; len(product)-1 != degree || product[degree] == 0 {
			r.Errorf("%d elements: the product of %v and %v has not the degree %d", r.q, a, b, degree)
		}
		for x := range r.q {
			v, w := poly.Eval(r.f, a, x), poly.Eval(r.f, b, x)
			if poly.Eval(r.f, sum, x) != r.add[v][w] || poly.Eval(r.f, product, x) != r.mul[v][w] {
				r.Errorf("%d elements: the sum or the product of %v and %v at %d", r.q, a, b, x)
			}
		}
	})
}

// P4.3: whatever the quotient and the remainder are, they are found: so there
// are no others, and each a with few coefficients is divided.
func TestShortDivisions(t *testing.T) {
	for q, n := range map[int]int{2: 4, 3: 3, 4: 2, 5: 2, 7: 2} {
		r := newRing(t, q)
		for _, b := range all(q, n) {
			if len(cut(b)) == 0 {
				continue
			}
			for _, quotient := range all(q, n) {
				for _, rest := range all(q, len(cut(b))-1) {
					a := r.sum(r.product(quotient, b), rest)
					r.checkDivision(append(a, 0), b, cut(quotient), cut(rest))
				}
			}
		}
	}
}

// P4.3: divisions of up to 41 coefficients, products, and lesser degrees.
func TestDivisions(t *testing.T) {
	forRings(t, longest, func(r ring, n int) {
		b := r.other(n + 1)
		quotient, rest := r.upTo(longest-n), r.upTo(len(cut(b))-1)
		whole := r.product(quotient, b)
		r.checkDivision(r.sum(whole, rest), b, cut(quotient), cut(rest))
		r.checkDivision(whole, b, cut(quotient), nil)
		r.checkDivision(rest, b, nil, cut(rest))
		r.checkDivision(nil, b, nil, nil)
		r.checkDivision(b, b, []int{1}, nil)
		if len(cut(quotient)) > 0 {
			r.checkDivision(whole, quotient, cut(b), nil)
		}
	})
}

// monicDivisors returns the monic divisors of degrees less than n of each
// polynomial with n coefficients; they are found as products.
func monicDivisors(r ring, n int) map[string][][]int {
	found := map[string][][]int{}
	for d := range n {
		for _, a := range all(r.q, d) {
			divisor := append(a, 1)
			for _, b := range all(r.q, n-d) {
				key := text(r.product(divisor, b))
				found[key] = append(found[key], divisor)
			}
		}
	}
	return found
}

// text returns a string that differs for different lists of elements.
func text(a []int) string {
	var b []byte
	for _, c := range a {
		b = append(b, byte(c))
	}
	return string(b)
}

// P4.1: Gcd of short polynomials, all pairs of them.
func TestShortCommonDivisors(t *testing.T) {
	for q, n := range map[int]int{2: 5, 3: 4, 4: 3, 5: 3} {
		r := newRing(t, q)
		divisors := monicDivisors(r, n)
		for _, a := range all(q, n) {
			for _, b := range all(q, n) {
				var greatest []int
				for _, d := range divisors[text(cut(a))] {
					common := slices.ContainsFunc(divisors[text(cut(b))], func(e []int) bool { return slices.Equal(d, e) })
					if common && len(d) > len(greatest) {
						greatest = d
					}
				}
				if len(cut(a)) == 0 && len(cut(b)) == 0 {
					greatest = nil // all divisors are common, and none of them is the greatest
				}
				r.check("Gcd", poly.Gcd(r.f, a, b), greatest, a, b)
			}
		}
	}
}

// P4.1: Gcd with 0, of 0 and 0, and of constants.
func TestCommonDivisorsWithZero(t *testing.T) {
	forRings(t, longest, func(r ring, n int) {
		zero, factor, p := make([]int, n), 1+r.source.Intn(r.q-1), r.monic(longest)
		multiple := append(r.product(p, []int{factor}), 0)
		r.check("Gcd", poly.Gcd(r.f, zero, zero), nil, zero, zero)
		r.check("Gcd", poly.Gcd(r.f, multiple, zero), p, multiple, zero)
		r.check("Gcd", poly.Gcd(r.f, zero, multiple), p, zero, multiple)
		r.check("Gcd", poly.Gcd(r.f, multiple, []int{factor}), []int{1}, multiple, []int{factor})
		r.check("Gcd", poly.Gcd(r.f, multiple, p), p, multiple, p)
	})
}

// P4.1 and P4.4: polynomials that have their roots in the field have what they
// have in common as the divisor.
func TestCommonRoots(t *testing.T) {
	forRings(t, 20, func(r ring, _ int) {
		l := r.source.Perm(r.q)
		l = l[:min(r.q, 50)]
		i := r.source.Intn(len(l) + 1)
		j := i + r.source.Intn(len(l)-i+1)
		first, second := l[max(0, j-40):j], l[i:min(len(l), i+40)]
		a, b := r.product(r.withRoots(first), []int{r.q - 1}), r.withRoots(second)
		both := l[max(i, j-40):min(j, i+40)]
		r.check("Gcd", poly.Gcd(r.f, a, b), r.withRoots(both), a, b)
	})
}

// P4.4: it divides both, and the multiples by a monic polynomial have the
// multiple.
func TestCommonDivisors(t *testing.T) {
	forRings(t, 20, func(r ring, _ int) {
		a, b, m, n := r.upTo(14), r.other(14), r.monic(14), r.monic(14)
		a, b = r.product(a, m), r.product(b, m)
		divisor := poly.Gcd(r.f, a, b)
		if len(divisor) == 0 || divisor[len(divisor)-1] != 1 {
			r.Fatalf("%d elements: Gcd of %v and %v: %v", r.q, a, b, divisor)
		}
		for _, p := range [][]int{a, b} {
			if _, rest, err := poly.DivMod(r.f, p, divisor); len(rest) > 0 || err != api.OK {
				r.Errorf("%d elements: Gcd of %v and %v: %v", r.q, a, b, divisor)
			}
		}
		if _, rest, _ := poly.DivMod(r.f, divisor, m); len(rest) > 0 {
			r.Errorf("%d elements: %v divides %v and %v, but not %v", r.q, m, a, b, divisor)
		}
		more, others := r.product(a, n), r.product(b, n)
		r.check("Gcd", poly.Gcd(r.f, more, others), r.product(divisor, n), more, others)
		r.check("Gcd", poly.Gcd(r.f, others, more), r.product(divisor, n), others, more)
	})
}

// P4.5: roots are what divides, and there are at most as many as the degree.
func TestRootsDivide(t *testing.T) {
	forRings(t, 20, func(r ring, n int) {
		planted := r.source.Perm(r.q)[:min(n, r.q)]
		a := r.product(r.withRoots(planted), r.other(longest-len(planted)))
		roots := poly.Roots(r.f, a)
		if len(roots) > len(a)-1 {
			r.Errorf("%d elements: %v has %d roots", r.q, a, len(roots))
		}
		for x := range r.q {
			_, rest, err := poly.DivMod(r.f, a, r.root(x))
			if slices.Contains(roots, x) != (len(rest) == 0) || err != api.OK {
				r.Errorf("%d elements: is %d a root of %v? %v", r.q, x, a, roots)
			}
			if slices.Contains(planted, x) && !slices.Contains(roots, x) {
				r.Errorf("%d elements: the root %d of %v is missing", r.q, x, a)
			}
		}
	})
}

// P4.5: a polynomial whose roots are all elements, and those with one root.
func TestAsManyRoots(t *testing.T) {
	forRings(t, 1, func(r ring, _ int) {
		var elements []int
		for x := range r.q {
			elements = append(elements, x)
			power := r.withRoots(slices.Repeat([]int{x}, 5))
			r.check("Roots", poly.Roots(r.f, power), []int{x}, power)
		}
		if r.q < longest {
			r.check("Roots", poly.Roots(r.f, r.withRoots(elements)), elements)
		}
	})
}

// places returns all lists of n different elements less than q.
func places(q, n int) [][]int {
	var l [][]int
	for _, xs := range all(q, n) {
		if len(slices.Compact(slices.Sorted(slices.Values(xs)))) == n {
			l = append(l, xs)
		}
	}
	return l
}

// P4.6: all short polynomials, from their values at all places in all orders.
func TestShortInterpolations(t *testing.T) {
	for q, most := range map[int]int{2: 2, 3: 3, 4: 4, 5: 3, 8: 2} {
		r := newRing(t, q)
		for n := range most + 1 {
			for _, xs := range places(q, n) {
				for _, p := range all(q, n) {
					r.check("Interpolate", r.interpolate(xs, r.values(p, xs)), cut(p), xs)
				}
			}
		}
	}
}

// P4.6: polynomials with up to as many coefficients as there are elements.
func TestInterpolations(t *testing.T) {
	forRings(t, 1, func(r ring, _ int) {
		for n := range r.q + 1 {
			xs, p := r.source.Perm(r.q)[:n], r.drawn(n)
			r.check("Interpolate", r.interpolate(xs, r.values(p, xs)), cut(p), xs)
		}
	})
}

// rational returns the monic polynomials of degree n with coefficients less
// than P.
func (r ring) rational(n int) [][]int {
	l := all(r.f.P, n)
	for i := range l {
		l[i] = append(l[i], 1)
	}
	return l
}

// P4.1: Minimal returns the only monic polynomial of the least degree with
// coefficients less than P and the root a.
func TestMinimal(t *testing.T) {
	forRings(t, 1, func(r ring, _ int) {
		for a := range r.q {
			var found [][]int
			for n := 1; len(found) == 0; n++ {
				for _, p := range r.rational(n) {
					if r.value(p, a) == 0 {
						found = append(found, p)
					}
				}
			}
			if got := poly.Minimal(r.f, a); len(found) != 1 || !slices.Equal(got, found[0]) {
				r.Errorf("%d elements: minimal polynomial of %d: %v, not %v", r.q, a, got, found)
			}
		}
	})
}

// P4.7: the minimal polynomial divides what has the root, its degree divides E,
// and the power P has the same one.
func TestMinimalDivides(t *testing.T) {
	forRings(t, 1, func(r ring, _ int) {
		for a := range r.q {
			minimal := poly.Minimal(r.f, a)
			if degree := len(minimal) - 1; degree < 1 || r.f.E%degree != 0 {
				r.Fatalf("%d elements: minimal polynomial of %d: %v", r.q, a, minimal)
			}
			conjugate, err := field.Pow(r.f, a, r.f.P)
			if err != api.OK {
				r.Fatalf("%d elements: power %d of %d: error %d", r.q, r.f.P, a, err)
			}
			r.check("Minimal", poly.Minimal(r.f, conjugate), minimal, []int{conjugate})
			for n := 1; n <= r.f.E; n++ {
				for _, p := range r.rational(n) {
					_, rest, err := poly.DivMod(r.f, p, minimal)
					if (r.value(p, a) == 0) != (len(rest) == 0) || err != api.OK {
						r.Errorf("%d elements: %v by the minimal polynomial of %d leaves %v", r.q, p, a, rest)
					}
				}
			}
		}
	})
}

// P4.7: likewise for long polynomials with coefficients less than P.
func TestMinimalDividesLong(t *testing.T) {
	forRings(t, 10, func(r ring, n int) {
		a := r.source.Intn(r.q)
		minimal := poly.Minimal(r.f, a)
		factor := make([]int, 1+r.source.Intn(longest-r.f.E))
		for i := range factor {
			factor[i] = r.source.Intn(r.f.P)
		}
		p := r.product(minimal, factor)
		if slices.ContainsFunc(p, func(c int) bool { return c >= r.f.P }) || r.value(p, a) != 0 {
			r.Fatalf("%d elements: multiple %v of the minimal polynomial of %d", r.q, p, a)
		}
		r.checkDivision(p, minimal, cut(factor), nil)
		r.checkDivision(r.sum(p, []int{1}), minimal, cut(factor), []int{1})
	})
}
