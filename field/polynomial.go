package field

// maxDegree is the greatest degree of a modulus: 2^6 is api.MaxField.
const maxDegree = 6

// polynomial has the coefficients of a polynomial over the numbers modulo a
// prime, the constant one first. It has room for a modulus with its leading 1.
type polynomial [maxDegree + 1]int

// digits yields the places and the digits of n in the base p, the least one
// first, as long as there are digits other than 0. It ends where a polynomial
// does: larger numbers are no elements, but must not lead outside of an array.
func digits(p, n int) func(yield func(i, d int) bool) {
	return func(yield func(i, d int) bool) {
		rest := n
		for i := 0; i <= maxDegree && rest > 0; i++ {
			if !yield(i, rest%p) {
				return
			}
			rest /= p
		}
	}
}

// expand returns the polynomial that n stands for.
func expand(p, n int) polynomial {
	var v polynomial
	for i, d := range digits(p, n) {
		v[i] = d
	}
	return v
}

// number returns the number that stands for v.
func number(p int, v polynomial) int {
	n := 0
	for i := maxDegree; i >= 0; i-- {
		n = n*p + v[i]
	}
	return n
}

// subTimes returns a - b c modulo p for a, b and c less than p. It adds, since
// the remainder of a negative number would be negative.
func subTimes(p, a, b, c int) int { return (a + b*(p-c)) % p }

// modulus returns the coefficients below the leading one of the irreducible
// polynomial of degree e with the least number.
func modulus(p, e int) []int {
	q := 1
	for range e {
		q *= p
	}
	// With its leading 1, the polynomial with the number n is q + n.
	n := q
	for n < 2*q && !irreducible(p, e, n) {
		n++
	}
	v := expand(p, n)
	return append([]int(nil), v[:e]...)
}

// irreducible reports whether the monic polynomial of degree e with the number
// n, its leading 1 included, has no factor of degree 1 to e - 1. Of two factors
// one has at most half the degree.
func irreducible(p, e, n int) bool {
	first := p
	for d := 1; 2*d <= e; d++ {
		for m := first; m < 2*first; m++ {
			if divides(p, expand(p, m), d, expand(p, n), e) {
				return false
			}
		}
		first *= p
	}
	return true
}

// divides reports whether the monic polynomial v of degree d divides w, which
// has the degree e.
func divides(p int, v polynomial, d int, w polynomial, e int) bool {
	for shift := e - d; shift >= 0; shift-- {
		top := w[shift+d]
		for i := 0; i <= d; i++ {
			w[shift+i] = subTimes(p, w[shift+i], top, v[i])
		}
	}
	return w == polynomial{}
}

// leastFactor returns the least factor of q other than 1, which is a prime.
func leastFactor(q int) int {
	p := 2
	for q%p != 0 {
		p++
	}
	return p
}

// divideOut divides n by p as often as it is divisible; n and p - 1 are at
// least 1. It returns what is left, and how often it has divided.
func divideOut[N ~int | ~uint64](n, p N) (rest N, times int) {
	rest = n
	for rest%p == 0 {
		rest /= p
		times++
	}
	return rest, times
}
