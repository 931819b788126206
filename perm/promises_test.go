package perm_test

import (
	"math/rand"
	"slices"
	"testing"

	"plexus/api"
	"plexus/perm"
)

// P8.2: the elements are those that generators make, and no others.
func TestGroups(t *testing.T) {
	source := rand.New(rand.NewSource(6))
	for _, s := range samples() {
		c := mustBuild(t, s)
		l, made := perm.Elements(c), keys(s.group)
		for _, g := range append(cloned(s.gens), points(s.n)) {
			if !slices.ContainsFunc(l, func(h []int) bool { return slices.Equal(g, h) }) || !perm.Has(c, g) {
				t.Errorf("group of %v: %v is no element", s.gens, g)
			}
		}
		for _, g := range l {
			if !made[key(g)] {
				t.Errorf("group of %v: the element %v is no product of generators", s.gens, g)
			}
			if !perm.Has(c, perm.Inv(g)) {
				t.Errorf("group of %v: the inverse of %v is no element", s.gens, g)
			}
			// Not all products of large groups, which would take long.
			for range min(len(l), 5) {
				if h := l[source.Intn(len(l))]; !perm.Has(c, perm.Mul(g, h)) {
					t.Errorf("group of %v: the product of %v and %v is no element", s.gens, g, h)
				}
			}
		}
		if len(l) <= 48 && !isClosed(l) {
			t.Errorf("group of %v: %v is not closed", s.gens, l)
		}
	}
}

// P8.2: other generators of the same group, in another order, have the same
// elements.
func TestGeneratorsDoNotMatter(t *testing.T) {
	source := rand.New(rand.NewSource(7))
	for _, s := range samples() {
		var gens [][]int
		for range 30 {
			gens = append(gens, s.group[source.Intn(len(s.group))])
		}
		gens = append(gens, s.gens[:min(len(s.gens), 70)]...)
		source.Shuffle(len(gens), func(i, j int) { gens[i], gens[j] = gens[j], gens[i] })
		if l := perm.Elements(mustBuild(t, sample{n: s.n, gens: gens})); !same(l, generated(s.n, gens)) {
			t.Errorf("group of %v: %v", gens, l)
		}
	}
}

// P8.3: stabilizers, and orders of elements.
func TestStabilizersAndOrders(t *testing.T) {
	for _, s := range samples() {
		c := mustBuild(t, s)
		l := perm.Elements(c)
		for k := range s.n + 1 {
			fixed := perm.Fix(c, k)
			want := slices.DeleteFunc(cloned(l), func(g []int) bool { return !fixes(g, k) })
			if got := perm.Elements(fixed); !same(got, want) || !perm.Right(fixed) {
				t.Errorf("group of %v: %v are not the elements that take the points below %d to themselves", s.gens, got, k)
			}
		}
		for _, g := range l {
			if k := perm.Order(g); k < 1 || perm.Size(c)%k != 0 {
				t.Errorf("group of %v: the order of %v is %d", s.gens, g, k)
			}
		}
	}
}

// P8.3: images of sets, and the elements that take them to themselves.
func TestImagesAndStabilizers(t *testing.T) {
	for i, s := range samples() {
		c := mustBuild(t, s)
		l := perm.Elements(c)
		for set := range uint64(1) << s.n {
			if len(l) > 500 && (uint64(i)+set)%7 != 0 {
				continue
			}
			stay := 0
			for _, g := range l {
				if imageOf(set, g) == set {
					stay++
				}
			}
			if images := perm.Images(c, set); len(images)*stay != perm.Size(c) {
				t.Errorf("group of %v: %d has %d images, and %d elements take it to itself", s.gens, set, len(images), stay)
			}
		}
	}
}

// P8.4: what is right stays so for the chains that the other functions make.
func TestChainsThatAreMadeAreRight(t *testing.T) {
	for _, s := range samples() {
		c := mustBuild(t, s)
		again, err := perm.Build(s.n, s.gens)
		if err != api.OK || !sameChain(c, again) {
			t.Errorf("Build of %v: %v, and %v", s.gens, c, again)
		}
		for k := -1; k <= s.n+1; k++ {
			if fixed := perm.Fix(c, k); !perm.Right(fixed) || !isRight(fixed) {
				t.Errorf("group of %v: Fix of %d is %v", s.gens, k, fixed)
			}
		}
	}
}

// powerOf returns the product of k times g.
func powerOf(g []int, k int) []int {
	power := points(len(g))
	for range k {
		power = perm.Mul(power, g)
	}
	return power
}

// P8.5: products and inverses.
func TestProductsAreAssociative(t *testing.T) {
	for _, l := range somePermutations() {
		for _, g := range l {
			one := points(len(g))
			if !slices.Equal(perm.Mul(g, one), g) || !slices.Equal(perm.Mul(one, g), g) {
				t.Errorf("%v multiplied by the identity", g)
			}
			inverse := perm.Inv(g)
			if !slices.Equal(perm.Mul(g, inverse), one) || !slices.Equal(perm.Mul(inverse, g), one) {
				t.Errorf("%v is not the inverse of %v", inverse, g)
			}
			for _, h := range l {
				if got := perm.Inv(perm.Mul(g, h)); !slices.Equal(got, perm.Mul(perm.Inv(h), inverse)) {
					t.Errorf("%v is not the inverse of the product of %v and %v", got, g, h)
				}
				for _, k := range l {
					if !slices.Equal(perm.Mul(perm.Mul(g, h), k), perm.Mul(g, perm.Mul(h, k))) {
						t.Errorf("products of %v, %v and %v", g, h, k)
					}
				}
			}
		}
	}
}

// P8.5: orders, also those of conjugates.
func TestOrders(t *testing.T) {
	for _, l := range somePermutations() {
		for _, g := range l {
			one, order := points(len(g)), perm.Order(g)
			for k := 1; k <= order; k++ {
				if slices.Equal(powerOf(g, k), one) != (k == order) {
					t.Errorf("the order of %v is %d, not %d", g, k, order)
				}
			}
			if perm.Order(perm.Inv(g)) != order {
				t.Errorf("orders of %v and its inverse differ", g)
			}
			for _, h := range l {
				if other := perm.Mul(perm.Mul(perm.Inv(h), g), h); perm.Order(other) != order {
					t.Errorf("orders of %v and its conjugate %v differ", g, other)
				}
			}
		}
	}
}

// imagesOf returns the images of the lists of l under h, as Orbits has them.
func imagesOf(l [][]int, h []int) [][]int {
	var images [][]int
	for _, orbit := range l {
		image := after(orbit, h)
		slices.Sort(image)
		images = append(images, image)
	}
	slices.SortFunc(images, slices.Compare[[]int])
	return images
}

// P8.6.
func TestConjugation(t *testing.T) {
	source := rand.New(rand.NewSource(8))
	for _, s := range samples() {
		h := source.Perm(s.n)
		other := sample{n: s.n}
		for _, g := range s.gens {
			other.gens = append(other.gens, perm.Mul(perm.Mul(perm.Inv(h), g), h))
		}
		orbits, err := perm.Orbits(s.n, s.gens)
		if err != api.OK {
			t.Fatalf("Orbits of %v: error %d", s.gens, err)
		}
		checkOrbits(t, s.n, other.gens, imagesOf(orbits, h))
		var want [][]int
		for _, g := range perm.Elements(mustBuild(t, s)) {
			want = append(want, conjugate(g, h))
		}
		slices.SortFunc(want, slices.Compare[[]int])
		if l := perm.Elements(mustBuild(t, other)); !same(l, want) {
			t.Errorf("group of %v, conjugated by %v: %v, not %v", s.gens, h, l, want)
		}
	}
}

// P8.6: orbits of more points.
func TestConjugatedOrbits(t *testing.T) {
	source := rand.New(rand.NewSource(9))
	for n := 1; n <= 16; n++ {
		for range 100 {
			h := source.Perm(n)
			var gens, others [][]int
			for range source.Intn(5) {
				g := drawnPermutation(source, n)
				gens, others = append(gens, g), append(others, conjugate(g, h))
			}
			orbits, err := perm.Orbits(n, gens)
			if err != api.OK {
				t.Fatalf("Orbits of %v: error %d", gens, err)
			}
			checkOrbits(t, n, others, imagesOf(orbits, h))
		}
	}
}
