package poly

import (
	"plexus/api"
	"plexus/field"
)

// polynomial is a polynomial over f. Its coefficients c are trimmed. They may be
// the list of a caller: no method changes them, and what plus, times, divide and
// monic return has memory of its own.
type polynomial struct {
	f api.Field
	c []int
}

// over returns the polynomial with the coefficients a.
func over(f api.Field, a []int) polynomial { return polynomial{f: f, c: trimmed(a)} }

// minus returns the polynomial x - a.
func minus(f api.Field, a int) polynomial { return over(f, []int{field.Neg(f, a), 1}) }

// trimmed returns the part of a before the zeros at its end.
func trimmed(a []int) []int {
	n := len(a)
	for n > 0 && a[n-1] == 0 {
		n--
	}
	return a[:n]
}

func (p polynomial) isZero() bool { return len(p.c) == 0 }

func (p polynomial) plus(q polynomial) polynomial {
	sum := make([]int, max(len(p.c), len(q.c)))
	copy(sum, p.c)
	for i, c := range q.c {
		sum[i] = field.Add(p.f, sum[i], c)
	}
	return over(p.f, sum)
}

func (p polynomial) times(q polynomial) polynomial {
	// There is a place too many, so that there is none too few for zeros.
	product := make([]int, len(p.c)+len(q.c))
	for i, a := range p.c {
		for j, b := range q.c {
			product[i+j] = field.Add(p.f, product[i+j], field.Mul(p.f, a, b))
		}
	}
	return over(p.f, product)
}

// divide returns the quotient and the remainder of p and q, which is not 0.
func (p polynomial) divide(q polynomial) (quotient, rest polynomial) {
	degree := len(q.c) - 1
	inverse := q.inverseOfLast()
	left := append([]int(nil), p.c...)
	factors := make([]int, max(len(left)-degree, 0))
	for shift := len(factors) - 1; shift >= 0; shift-- {
		factor := field.Mul(p.f, left[shift+degree], inverse)
		for i, c := range q.c {
			left[shift+i] = field.Sub(p.f, left[shift+i], field.Mul(p.f, factor, c))
		}
		factors[shift] = factor
	}
	// What is cut off is 0 in a field. Elsewhere it may be anything, but Gcd has
	// to end there as well.
	return over(p.f, factors), over(p.f, left[:min(degree, len(left))])
}

// monic returns the monic multiple of p, and 0 for 0.
func (p polynomial) monic() polynomial {
	if p.isZero() {
		return polynomial{f: p.f}
	}
	return p.times(over(p.f, []int{p.inverseOfLast()}))
}

// inverseOfLast returns the inverse of the last coefficient of p, which is not 0.
func (p polynomial) inverseOfLast() int {
	// It is trimmed, so that there is an inverse.
	inverse, _ := field.Inv(p.f, p.c[len(p.c)-1])
	return inverse
}

// value returns the value of p at x.
func (p polynomial) value(x int) int {
	v := 0
	for i := len(p.c) - 1; i >= 0; i-- {
		v = field.Add(p.f, field.Mul(p.f, v, x), p.c[i])
	}
	return v
}
