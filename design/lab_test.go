package design_test

import (
	"math/big"
	"math/bits"
	"math/rand"
	"slices"
	"sync"
	"testing"

	"plexus/api"
	"plexus/design"
)

// pointsOf returns the points of a block, increasing.
func pointsOf(b uint64) []int {
	var l []int
	for p := 0; b>>p != 0; p++ {
		if b&(1<<p) != 0 {
			l = append(l, p)
		}
	}
	return l
}

// blockOf returns the block with the points of l.
func blockOf(l ...int) uint64 {
	b := uint64(0)
	for _, p := range l {
		b |= 1 << p
	}
	return b
}

// upTo returns 0 to n - 1.
func upTo(n int) []int {
	l := make([]int, n)
	for i := range l {
		l[i] = i
	}
	return l
}

// parts returns the sets of k of the points of b.
func parts(b uint64, k int) []uint64 {
	if k == 0 {
		return []uint64{0}
	}
	var l []uint64
	for b != 0 {
		least := b & -b
		b &^= least
		for _, part := range parts(b, k-1) {
			l = append(l, part|least)
		}
	}
	return l
}

func structure(v int, blocks ...uint64) api.Inc {
	l := slices.Clone(blocks)
	slices.Sort(l)
	return api.Inc{V: v, B: l}
}

func isRightByHand(p api.Params) bool {
	switch {
	case p.V < 1, p.V > 16, p.T < 0, p.T > 5, p.L < 1, p.L > 64:
		return false
	}
	return p.T <= p.K && p.K <= p.V
}

// isDesignByHand counts, from the blocks on, where sets of T points are.
func isDesignByHand(x api.Inc, p api.Params) bool {
	if x.V != p.V {
		return false
	}
	found, sets := make([]int, 1<<x.V), int64(0)
	for _, b := range x.B {
		if bits.OnesCount64(b) != p.K {
			return false
		}
		for _, part := range parts(b, p.T) {
			if found[part]++; found[part] == 1 {
				sets++
			}
		}
	}
	isOther := func(n int) bool { return n != 0 && n != p.L }
	return !slices.ContainsFunc(found, isOther) && chosen(p.V, p.T).Cmp(big.NewInt(sets)) == 0
}

func chosen(n, k int) *big.Int { return new(big.Int).Binomial(int64(n), int64(k)) }

// throughByHand returns the number of blocks through i points.
func throughByHand(p api.Params, i int) *big.Rat {
	n := new(big.Int).Mul(big.NewInt(int64(p.L)), chosen(p.V-i, p.T-i))
	return new(big.Rat).SetFrac(n, chosen(p.K-i, p.T-i))
}

// isResolutionByHand reports whether c is a resolution of x.
func isResolutionByHand(x api.Inc, c [][]int) bool {
	var indices []int
	for _, class := range c {
		var points []int
		for _, j := range class {
			if j < 0 || j >= len(x.B) {
				return false
			}
			points = append(points, pointsOf(x.B[j])...)
		}
		slices.Sort(points)
		if !slices.Equal(points, upTo(x.V)) {
			return false
		}
		indices = append(indices, class...)
	}
	slices.Sort(indices)
	return len(x.B) > 0 && !slices.Contains(x.B, 0) && slices.Equal(indices, upTo(len(x.B)))
}

// isClass reports whether the blocks at these places have all points together,
// each once.
func isClass(x api.Inc, places uint64) bool {
	union, size := uint64(0), 0
	for j, b := range x.B {
		if places&(1<<j) != 0 {
			union, size = union|b, size+bits.OnesCount64(b)
		}
	}
	return union == 1<<x.V-1 && size == x.V
}

// firstResolution returns the first ordered resolution of x, if there is one: it
// begins with the first class, of all sets of blocks, that can be completed.
func firstResolution(x api.Inc) ([][]int, bool) {
	if len(x.B) == 0 || slices.Contains(x.B, 0) {
		return nil, false
	}
	// The classes that begin with each block, in order.
	beginning := make([][][]int, len(x.B))
	for places := uint64(1); places < 1<<len(x.B); places++ {
		if isClass(x, places) {
			class := pointsOf(places)
			beginning[class[0]] = append(beginning[class[0]], class)
		}
	}
	for _, l := range beginning {
		slices.SortFunc(l, slices.Compare[[]int])
	}
	return completion(beginning, 1<<len(x.B)-1, map[uint64]bool{})
}

// completion returns the first classes that have all blocks of open, if there
// are any; failed are sets of blocks that have none.
func completion(beginning [][][]int, open uint64, failed map[uint64]bool) ([][]int, bool) {
	if open == 0 {
		return nil, true
	}
	if failed[open] {
		return nil, false
	}
	for _, class := range beginning[pointsOf(open)[0]] {
		places := blockOf(class...)
		if places&^open != 0 {
			continue
		}
		if others, is := completion(beginning, open&^places, failed); is {
			return append([][]int{class}, others...), true
		}
	}
	failed[open] = true
	return nil, false
}

// compareResolutions compares lists of classes element by element.
func compareResolutions(a, b [][]int) int { return slices.CompareFunc(a, b, slices.Compare[[]int]) }

func same(a, b [][]int) bool { return slices.EqualFunc(a, b, slices.Equal[[]int]) }

// families returns all structures with v points and at most that many blocks.
func families(v, most int) []api.Inc {
	l := []api.Inc{{V: v}}
	for i := 0; i < len(l) && len(l[i].B) < most; i++ {
		least := uint64(0)
		if n := len(l[i].B); n > 0 {
			least = l[i].B[n-1]
		}
		for b := least; b < 1<<v; b++ {
			l = append(l, structure(v, append(slices.Clone(l[i].B), b)...))
		}
	}
	return l
}

// small returns all structures with few points and few blocks.
func small() []api.Inc {
	return slices.Concat(families(1, 5), families(2, 5), families(3, 4), families(4, 2))
}

// translates returns the structure of all translates of sets modulo v.
func translates(v int, sets ...[]int) api.Inc {
	var blocks []uint64
	for _, set := range sets {
		for k := range v {
			var l []int
			for _, p := range set {
				l = append(l, (p+k)%v)
			}
			blocks = append(blocks, blockOf(l...))
		}
	}
	return structure(v, blocks...)
}

// planes returns the sets of vectors of n bits whose scalar product with one of
// them, other than 0, is 0 or 1: two classes for each one.
func planes(n int) [][]uint64 {
	var l [][]uint64
	for a := uint64(1); a < 1<<n; a++ {
		class := make([]uint64, 2)
		for x := range uint64(1) << n {
			class[bits.OnesCount64(a&x)%2] |= 1 << x
		}
		l = append(l, class)
	}
	return l
}

// affine returns the lines of the affine plane over the integers modulo a prime,
// or over 4 elements, class by class.
func affine(q int) [][]uint64 {
	sum := func(a, b int) int { return (a + b) % q }
	product := func(a, b int) int { return a * b % q }
	if q == 4 {
		sum = func(a, b int) int { return a ^ b }
		product = func(a, b int) int { return [4][4]int{{}, {0, 1, 2, 3}, {0, 2, 3, 1}, {0, 3, 1, 2}}[a][b] }
	}
	l := make([][]uint64, q+1)
	for c := range q {
		for m := range q {
			line := uint64(0)
			for x := range q {
				line |= 1 << (x*q + sum(product(m, x), c))
			}
			l[m] = append(l[m], line)
		}
		l[q] = append(l[q], (1<<q-1)<<(c*q))
	}
	return l
}

// lines returns the lines of the projective space of vectors of n bits.
func lines(n int) api.Inc {
	var blocks []uint64
	for a := 1; a < 1<<n; a++ {
		for b := a + 1; b < 1<<n; b++ {
			if c := a ^ b; c > b {
				blocks = append(blocks, blockOf(a-1, b-1, c-1))
			}
		}
	}
	return structure(1<<n-1, blocks...)
}

// hadamard returns a design {3, 12, 6, 2}: the squares modulo 11 with another
// point, their translates, and the complements of those.
func hadamard() api.Inc {
	var blocks []uint64
	for _, b := range translates(11, []int{1, 3, 4, 5, 9}).B {
		blocks = append(blocks, b|1<<11, (1<<12-1)&^(b|1<<11))
	}
	return structure(12, blocks...)
}

// known is a design, with its parameters.
type known struct {
	x api.Inc
	p api.Params
}

// whole returns the designs of all sets of k of v points, once, twice, .., and as
// often as they can be there.
func whole() []known {
	var l []known
	for v := 1; v <= 16; v++ {
		for k := range v + 1 {
			blocks := parts(1<<v-1, k)
			most := 64 / len(blocks)
			for n := 1; n <= most; n++ {
				if n > 3 && n < most {
					continue
				}
				t := min(k, 5)
				together := n * int(chosen(v-t, k-t).Int64())
				l = append(l, known{structure(v, slices.Repeat(blocks, n)...), api.Params{T: t, V: v, K: k, L: together}})
			}
		}
	}
	return l
}

// knownDesigns returns designs with the greatest T for which they are ones.
func knownDesigns() []known {
	plane := translates(7, []int{0, 1, 3})
	seven := plane.B
	other := translates(7, []int{0, 2, 3}).B
	l := []known{
		{plane, api.Params{T: 2, V: 7, K: 3, L: 1}},
		{structure(7, append(slices.Clone(seven), seven...)...), api.Params{T: 2, V: 7, K: 3, L: 2}},
		{structure(7, append(slices.Clone(seven), other...)...), api.Params{T: 2, V: 7, K: 3, L: 2}},
		{structure(7, slices.Repeat(seven, 9)...), api.Params{T: 2, V: 7, K: 3, L: 9}},
		{translates(11, []int{1, 3, 4, 5, 9}), api.Params{T: 2, V: 11, K: 5, L: 2}},
		{translates(13, []int{0, 1, 3, 9}), api.Params{T: 2, V: 13, K: 4, L: 1}},
		{translates(13, []int{0, 1, 4}, []int{0, 2, 7}), api.Params{T: 2, V: 13, K: 3, L: 1}},
		{structure(6, 0b100011, 0b100110, 0b101100, 0b111000, 0b110001, 0b001011, 0b010110, 0b001101, 0b011010, 0b010101), api.Params{T: 2, V: 6, K: 3, L: 2}},
		{structure(9, slices.Concat(affine(3)...)...), api.Params{T: 2, V: 9, K: 3, L: 1}},
		{structure(16, slices.Concat(affine(4)...)...), api.Params{T: 2, V: 16, K: 4, L: 1}},
		{structure(8, slices.Concat(planes(3)...)...), api.Params{T: 3, V: 8, K: 4, L: 1}},
		{structure(16, slices.Concat(planes(4)...)...), api.Params{T: 3, V: 16, K: 8, L: 3}},
		{structure(16, slices.Repeat(slices.Concat(planes(4)...), 2)...), api.Params{T: 3, V: 16, K: 8, L: 6}},
		{lines(3), api.Params{T: 2, V: 7, K: 3, L: 1}},
		{lines(4), api.Params{T: 2, V: 15, K: 3, L: 1}},
		{hadamard(), api.Params{T: 3, V: 12, K: 6, L: 2}},
		{translates(5, []int{0, 1}), api.Params{T: 1, V: 5, K: 2, L: 2}},
		{translates(16, []int{0, 1, 5}), api.Params{T: 1, V: 16, K: 3, L: 3}},
		{structure(16, 0xff00, 0x00ff), api.Params{T: 1, V: 16, K: 8, L: 1}},
		{structure(16, 0xff00, 0xff00, 0x0ff0), api.Params{T: 0, V: 16, K: 8, L: 3}},
		{structure(4, 3), api.Params{T: 0, V: 4, K: 2, L: 1}},
	}
	return append(l, whole()...)
}

// drawn returns a structure with v points and n blocks, all of one size or not.
func drawn(source *rand.Rand, v, n int) api.Inc {
	var blocks []uint64
	k, even := source.Intn(v+1), source.Intn(2) == 0
	for range n {
		if !even {
			k = source.Intn(v + 1)
		}
		blocks = append(blocks, blockOf(source.Perm(v)[:k]...))
	}
	return structure(v, blocks...)
}

// changed returns structures that differ a little from x.
func changed(source *rand.Rand, x api.Inc) []api.Inc {
	j, other := source.Intn(len(x.B)), source.Intn(len(x.B))
	l := []api.Inc{structure(x.V, slices.Delete(slices.Clone(x.B), j, j+1)...)}
	if len(x.B) < 64 {
		l = append(l, structure(x.V, append(slices.Clone(x.B), x.B[j])...))
	}
	if x.V < 16 {
		l = append(l, structure(x.V+1, x.B...))
	}
	swapped := slices.Clone(x.B)
	swapped[j] = blockOf(source.Perm(x.V)[:bits.OnesCount64(x.B[j])]...)
	turned := slices.Clone(x.B)
	turned[j] ^= 1 << source.Intn(x.V)
	// A point goes from one block to another one, so that degrees stay.
	moved := slices.Clone(x.B)
	if from, to := moved[j]&^moved[other], moved[other]&^moved[j]; from != 0 && to != 0 {
		p, q := from&-from, to&-to
		moved[j], moved[other] = moved[j]^p^q, moved[other]^p^q
	}
	return append(l, structure(x.V, swapped...), structure(x.V, turned...), structure(x.V, moved...))
}

// sample is a structure with all right parameters with which it is a design,
// found by hand, with T increasing.
type sample struct {
	x      api.Inc
	params []api.Params
}

// samples returns small structures, designs, what differs a little from them,
// and others of all sizes, the same ones in each run. (They are made once, which
// takes long.)
var samples = sync.OnceValue(func() []sample {
	source := rand.New(rand.NewSource(1))
	l := small()
	for _, d := range knownDesigns() {
		l = append(append(l, d.x), changed(source, d.x)...)
	}
	for v := 1; v <= 16; v++ {
		for _, n := range []int{1, 2, 3, 7, 14, 15, 33, 63, 64} {
			l = append(l, drawn(source, v, n))
		}
	}
	var samples []sample
	for _, x := range l {
		samples = append(samples, sample{x, parametersOf(x)})
	}
	return samples
})

// parametersOf returns all right parameters with which a structure is a design,
// by hand.
func parametersOf(x api.Inc) []api.Params {
	var l []api.Params
	if len(x.B) == 0 {
		return nil
	}
	k := bits.OnesCount64(x.B[0])
	for t := 0; t <= min(k, 5); t++ {
		n := 0
		for _, b := range x.B {
			if b&(1<<t-1) == 1<<t-1 {
				n++
			}
		}
		if p := (api.Params{T: t, V: x.V, K: k, L: n}); isRightByHand(p) && isDesignByHand(x, p) {
			l = append(l, p)
		}
	}
	return l
}

// allDesigns returns all samples that are designs, for each of their parameters.
func allDesigns() []known {
	var l []known
	for _, s := range samples() {
		for _, p := range s.params {
			l = append(l, known{s.x, p})
		}
	}
	return l
}

// checkIs fails the test unless x is a design with p, or is none, as is wanted.
func checkIs(t *testing.T, x api.Inc, p api.Params, want api.Errno) {
	t.Helper()
	if err := design.Check(x, p); err != want {
		t.Errorf("Check of %v with %v: error %d, not %d", x, p, err, want)
	}
}
