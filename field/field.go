// Package field is layer 1: finite fields with at most 64 elements. See
// shared/doc/01-field.md.
package field

import "plexus/api"

// Make returns the field with q elements (A1).
func Make(q int) (api.Field, api.Errno) {
	if q < 2 || q > api.MaxField {
		return api.Field{}, api.ErrArg
	}
	p := leastFactor(q)
	rest, e := divideOut(q, p)
	if rest != 1 {
		return api.Field{}, api.ErrArg
	}
	return api.Field{P: p, E: e, Mod: modulus(p, e)}, api.OK
}

// Valid reports whether f is what Make returns for some number of elements
// (A2).
func Valid(f api.Field) bool {
	g, err := Make(Size(f))
	if err != api.OK || f.P != g.P || f.E != g.E {
		return false
	}
	for i, c := range g.Mod {
		if f.Mod[i] != c {
			return false
		}
	}
	return true
}

// Size returns the number of elements of f (A2). It is 0 for what has not
// even the shape of a field, because the loops of the other functions are
// bounded by it and have to end for these as well.
func Size(f api.Field) int {
	if f.P < 2 || f.P > api.MaxField || f.E < 1 || f.E > maxDegree || len(f.Mod) != f.E {
		return 0
	}
	q := 1
	for range f.E {
		q *= f.P
	}
	if q > api.MaxField {
		return 0
	}
	return q
}

// Add returns a + b (A3).
func Add(f api.Field, a, b int) int { return addTimes(f, a, b, 1) }

// Sub returns a - b (A3).
func Sub(f api.Field, a, b int) int { return addTimes(f, a, b, f.P-1) }

// Neg returns -a (A3).
func Neg(f api.Field, a int) int { return addTimes(f, 0, a, f.P-1) }

// Mul returns the product of a and b (A3).
func Mul(f api.Field, a, b int) int {
	if Size(f) == 0 {
		return 0
	}
	var sum polynomial
	shifted := expand(f.P, a)
	for _, d := range digits(f.P, b) {
		for i := range f.E {
			sum[i] = (sum[i] + d*shifted[i]) % f.P
		}
		shifted = timesX(f, shifted)
	}
	return number(f.P, sum)
}

// Inv returns the inverse of a (A4).
func Inv(f api.Field, a int) (int, api.Errno) { return Pow(f, a, -1) }

// Pow returns a to the power of n (A5).
func Pow(f api.Field, a, n int) (int, api.Errno) {
	if a == 0 {
		return powerOfZero(n)
	}
	q := Size(f)
	if q == 0 {
		return 0, api.ErrArg
	}
	// The power q - 1 of a is 1. Reducing n before anything is negated keeps
	// the least integer right, which has no negative.
	n %= q - 1
	if n < 0 {
		n += q - 1
	}
	power := 1
	for ; n > 0; n /= 2 {
		if n%2 == 1 {
			power = Mul(f, power, a)
		}
		a = Mul(f, a, a)
	}
	return power, api.OK
}

func powerOfZero(n int) (int, api.Errno) {
	switch {
	case n < 0:
		return 0, api.ErrZero
	case n == 0:
		return 1, api.OK
	}
	return 0, api.OK
}

// Order returns the order of a, and 0 for 0 (A6).
func Order(f api.Field, a int) int {
	q := Size(f)
	power := 1
	for n := 1; n < q; n++ {
		power = Mul(f, power, a)
		if power == 1 {
			return n
		}
	}
	return 0
}

// Primitive returns the least primitive element (A6).
func Primitive(f api.Field) int {
	q := Size(f)
	for a := 1; a < q; a++ {
		if Order(f, a) == q-1 {
			return a
		}
	}
	return 0
}

// Trace returns the trace of a (A6).
func Trace(f api.Field, a int) int {
	if Size(f) == 0 {
		return 0
	}
	sum := 0
	for range f.E {
		sum = Add(f, sum, a)
		// P is not negative, so that there is no error.
		a, _ = Pow(f, a, f.P)
	}
	return sum
}

// addTimes returns a + n b, where n is a number and not an element.
func addTimes(f api.Field, a, b, n int) int {
	if Size(f) == 0 {
		return 0
	}
	sum := expand(f.P, a)
	for i, d := range digits(f.P, b) {
		sum[i] = (sum[i] + n*d) % f.P
	}
	return number(f.P, sum)
}

// timesX returns v x modulo the modulus of f.
func timesX(f api.Field, v polynomial) polynomial {
	top := v[f.E-1]
	for i := f.E - 1; i > 0; i-- {
		v[i] = subTimes(f.P, v[i-1], top, f.Mod[i])
	}
	v[0] = subTimes(f.P, 0, top, f.Mod[0])
	return v
}
