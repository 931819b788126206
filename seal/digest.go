package seal

// The factors of a step are odd, so that multiplying by them can be undone.
const (
	firstFactor  = 0x9e3779b97f4a7c15
	secondFactor = 0xbf58476d1ce4e5b9
)

// digest is a digest that is led on by steps.
type digest uint64

// step makes the step by w.
func (d *digest) step(w uint64) { *d = digest(mix(uint64(*d) ^ w)) }

// mix returns what a step makes of a digest and a word once they are one number.
func mix(x uint64) uint64 {
	a := x * firstFactor
	return (a ^ a>>29) * secondFactor
}

// unmix undoes mix.
func unmix(y uint64) uint64 {
	b := y * inverse(secondFactor)
	// The upper 29 bits of b are those of a. Each shift by 29 finds as many
	// more, and there are 64 in all.
	a := b ^ b>>29 ^ b>>58
	return a * inverse(firstFactor)
}

// inverse returns the number whose product with n, which is odd, is 1.
func inverse(n uint64) uint64 {
	// The product of an odd number with itself ends in the bits 001. Each round
	// doubles the number of bits that are right: 3, 6, 12, 24, 48, all.
	x := n
	for range 5 {
		x *= 2 - n*x
	}
	return x
}

// words are yielded one after the other.
type words func(yield func(w uint64) bool)

// feed calls step for each of the words.
func feed(l words, step func(w uint64)) {
	for w := range l {
		step(w)
	}
}

// numbers yields the words with the bits of the numbers of l.
func numbers(l []int) words {
	return func(yield func(w uint64) bool) {
		for _, n := range l {
			if !yield(uint64(n)) {
				return
			}
		}
	}
}

// groups yields b in words of 8 bytes, the least significant byte first.
func groups(b []byte) words {
	return func(yield func(w uint64) bool) {
		group := uint64(0)
		for i, x := range b {
			group |= uint64(x) << (i % 8 * 8)
			if i%8 < 7 && i < len(b)-1 {
				continue
			}
			if !yield(group) {
				return
			}
			group = 0
		}
	}
}
