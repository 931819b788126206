package design_test

import (
	"testing"

	"plexus/api"
	"plexus/design"
	"plexus/incidence"
)

// number returns the number of blocks through i points, which is an integer.
func number(t *testing.T, p api.Params, i int) int {
	t.Helper()
	n, err := design.Lambda(p, i)
	if err != api.OK || n.D != 1 {
		t.Errorf("Lambda of %v and %d: %v, error %d", p, i, n, err)
	}
	return n.N
}

// P9.2.
func TestLesserSets(t *testing.T) {
	for _, d := range allDesigns() {
		for lesser := range d.p.T + 1 {
			checkIs(t, d.x, api.Params{T: lesser, V: d.p.V, K: d.p.K, L: number(t, d.p, lesser)}, api.OK)
		}
	}
}

// P9.2: with Check alone, so that designs are those that it finds.
func TestLesserSetsOfWhatIsChecked(t *testing.T) {
	params := someParams([]int{0, 1, 2, 3, 4})
	for _, x := range small() {
		for _, p := range params {
			if design.Check(x, p) != api.OK {
				continue
			}
			for lesser := range p.T + 1 {
				checkIs(t, x, api.Params{T: lesser, V: p.V, K: p.K, L: number(t, p, lesser)}, api.OK)
			}
		}
	}
}

// P9.3.
func TestParts(t *testing.T) {
	derivations, residuals := 0, 0
	for _, d := range allDesigns() {
		p := d.p
		if p.T < 1 || p.V < 2 {
			continue
		}
		others := number(t, p, p.T-1) - p.L
		for point := range p.V {
			derived, err := incidence.Derived(d.x, point)
			residual, errResidual := incidence.Residual(d.x, point)
			if err != api.OK || errResidual != api.OK {
				t.Fatalf("parts of %v at %d: errors %d, %d", d.x, point, err, errResidual)
			}
			checkIs(t, derived, api.Params{T: p.T - 1, V: p.V - 1, K: p.K - 1, L: p.L}, api.OK)
			derivations++
			if p.K < p.V && others != 0 {
				checkIs(t, residual, api.Params{T: p.T - 1, V: p.V - 1, K: p.K, L: others}, api.OK)
				residuals++
			}
		}
	}
	if derivations < 1000 || residuals < 1000 {
		t.Errorf("%d derived, %d residual designs", derivations, residuals)
	}
}

// P9.4: where there is no Turned, the complement is no design with this T.
func TestComplements(t *testing.T) {
	turned, others := 0, 0
	for _, d := range allDesigns() {
		complement := incidence.Complement(d.x)
		want, err := design.Turned(d.p)
		for n := 1; n <= 64; n++ {
			p := api.Params{T: d.p.T, V: d.p.V, K: d.p.V - d.p.K, L: n}
			if is := design.Check(complement, p) == api.OK; is != (err == api.OK && p == want) {
				t.Errorf("the complement of %v with %v is a design with %v: %t; Turned: %v, error %d", d.x, d.p, p, is, want, err)
			}
		}
		if err != api.OK {
			others++
			continue
		}
		turned++
		if p, err := design.Turned(want); p != d.p || err != api.OK {
			t.Errorf("Turned of %v, which is that of %v: %v, error %d", want, d.p, p, err)
		}
	}
	if turned < 500 || others < 100 {
		t.Errorf("%d complements that are designs, %d that are none", turned, others)
	}
}

// P9.5.
func TestCounts(t *testing.T) {
	equal, more := 0, 0
	for _, d := range allDesigns() {
		p, blocks := d.p, len(d.x.B)
		if p.T >= 1 && blocks*p.K != p.V*number(t, p, 1) {
			t.Errorf("%v with %v has %d blocks through a point", d.x, p, number(t, p, 1))
		}
		if number(t, p, 0) != blocks {
			t.Errorf("%v with %v has %d blocks", d.x, p, number(t, p, 0))
		}
		if p.T < 2 || p.K == p.V {
			continue
		}
		switch {
		case blocks < p.V:
			t.Errorf("%v with %v has fewer blocks than points", d.x, p)
		case blocks == p.V:
			equal++
		default:
			more++
		}
	}
	if equal < 10 || more < 100 {
		t.Errorf("%d designs with as many blocks as points, %d with more", equal, more)
	}
}

// P9.6: what is returned.
func TestResolutionsAreOnes(t *testing.T) {
	found := 0
	for _, sample := range samples() {
		x := sample.x
		c, err := design.Resolve(x)
		if err != api.OK {
			continue
		}
		found++
		if design.Classes(x, c) != api.OK || !isResolutionByHand(x, c) {
			t.Errorf("Resolve of %v: %v is no resolution", x, c)
		}
		for i, class := range c {
			for k, j := range class {
				if k > 0 && j <= class[k-1] || k == 0 && i > 0 && j <= c[i-1][0] {
					t.Errorf("Resolve of %v: %v is not ordered", x, c)
				}
			}
		}
	}
	if found < 100 {
		t.Errorf("only %d resolutions", found)
	}
}

// P9.6: how many blocks there have to be.
func TestResolutionsHaveManyBlocks(t *testing.T) {
	few, resolved := 0, 0
	for _, d := range allDesigns() {
		p := d.p
		if p.T < 2 || p.K == p.V || len(d.x.B) > 14 {
			continue
		}
		c, err := design.Resolve(d.x)
		isFew := len(d.x.B) < p.V+number(t, p, 1)-1
		if isFew {
			few++
		}
		if err == api.OK {
			resolved++
			if len(c) != number(t, p, 1) {
				t.Errorf("the resolution %v of %v has %d classes", c, d.x, len(c))
			}
		}
		if isFew && err != api.ErrNone {
			t.Errorf("Resolve of %v with %v: %v, error %d", d.x, p, c, err)
		}
	}
	// Resolutions of known designs with more blocks, for which the number has to
	// be right as well.
	for _, r := range knownResolutions() {
		for _, p := range parametersOf(r.x) {
			if p.T < 2 || p.K == p.V {
				continue
			}
			resolved++
			if design.Classes(r.x, r.c) != api.OK || len(r.x.B) < p.V+number(t, p, 1)-1 {
				t.Errorf("%v with %v has the resolution %v", r.x, p, r.c)
			}
		}
	}
	if few < 10 || resolved < 10 {
		t.Errorf("%d designs with few blocks, %d with resolutions", few, resolved)
	}
}
