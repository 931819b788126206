package rat

// wide is a number with 128 bits, 2^64 high + low. It is a size, or in two's
// complement if it has a sign: sums of two products of parts of valid fractions
// have at most 126 bits.
type wide struct{ high, low uint64 }

// product returns a b.
func product(a, b uint64) wide {
	const half = 1<<32 - 1
	a1, a0, b1, b0 := a>>32, a&half, b>>32, b&half
	// A word has room for a product of halves and one more half, but not for
	// two products.
	carried := a1*b0 + a0*b0>>32
	middle := a0*b1 + carried&half
	return wide{high: a1*b1 + carried>>32 + middle>>32, low: a * b}
}

// signedProduct returns a b in two's complement.
func signedProduct(a int, b uint64) wide {
	if a < 0 {
		return product(size(a), b).minus()
	}
	return product(size(a), b)
}

func (w wide) plus(v wide) wide {
	sum := wide{high: w.high + v.high, low: w.low + v.low}
	if sum.low < w.low {
		sum.high++
	}
	return sum
}

func (w wide) minus() wide { return wide{high: ^w.high, low: ^w.low}.plus(wide{low: 1}) }

func (w wide) negative() bool { return w.high>>63 == 1 }

func (w wide) absolute() wide {
	if w.negative() {
		return w.minus()
	}
	return w
}

// fits reports whether w, a size, may be part of a valid fraction.
func (w wide) fits() bool { return w.high == 0 && w.low <= most }

// divide divides w, a size, by a number d from 1 to 2^63.
func (w wide) divide(d uint64) (quotient wide, rest uint64) {
	quotient.high, rest = w.high/d, w.high%d
	if rest == 0 {
		quotient.low, rest = w.low/d, w.low%d
		return quotient, rest
	}
	for i := 63; i >= 0; i-- {
		rest = rest<<1 | w.low>>i&1
		if rest >= d {
			rest -= d
			quotient.low |= 1 << i
		}
	}
	return quotient, rest
}
