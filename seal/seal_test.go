package seal_test

import (
	"math"
	"math/big"
	"math/rand"
	"slices"
	"testing"

	"plexus/seal"
)

// stepByHand makes a step with numbers that do not wrap around by themselves.
func stepByHand(h, w uint64) uint64 {
	number := func(x uint64) *big.Int { return new(big.Int).SetUint64(x) }
	cut := func(x *big.Int) *big.Int { return x.Mod(x, new(big.Int).Lsh(big.NewInt(1), 64)) }
	a := cut(new(big.Int).Mul(number(h^w), number(0x9e3779b97f4a7c15)))
	b := new(big.Int).Xor(a, new(big.Int).Rsh(a, 29))
	return cut(b.Mul(b, number(0xbf58476d1ce4e5b9))).Uint64()
}

// follow makes steps by hand.
func follow(h uint64, words ...uint64) uint64 {
	for _, w := range words {
		h = stepByHand(h, w)
	}
	return h
}

// samples returns words at the borders, each single bit, and others, the same
// ones in each run.
func samples(drawn int) []uint64 {
	l := []uint64{0, math.MaxUint64, math.MaxInt64, 0x9e3779b97f4a7c15, 0xbf58476d1ce4e5b9, 0x706c65787573, 0x6c616365, 0x6a6f696e}
	for i := range 64 {
		l = append(l, 1<<i)
	}
	source := rand.New(rand.NewSource(3))
	for range drawn {
		l = append(l, source.Uint64())
	}
	return l
}

// lists returns lists of numbers of all lengths up to 12, with numbers of all
// sizes, and repeated ones.
func lists() [][]int {
	numbers := []int{0, 0, 1, -1, 2, math.MinInt, math.MaxInt, 1 << 32, -7, 3, 3, 0}
	l := [][]int{{1}, {2}, {-1}, {1, 0}, {0, 1}}
	for n := range len(numbers) + 1 {
		l = append(l, numbers[:n])
	}
	return l
}

// wordsOf returns the words of a list and their number.
func wordsOf(l []int) []uint64 {
	var words []uint64
	for _, n := range l {
		words = append(words, uint64(n))
	}
	return append(words, uint64(len(l)))
}

// P3.1: steps, with values that were calculated apart.
func TestStep(t *testing.T) {
	for _, c := range []struct{ h, w, want uint64 }{
		{0, 0, 0},
		{1, 2, 0xeab1569b7ed4837c},
		{math.MaxUint64, 0, 0xa68094cc4f620527},
		{0, math.MaxUint64, 0xa68094cc4f620527},
		{1 << 63, 5, 0x0b71f24038052b82},
	} {
		if got := seal.Step(c.h, c.w); got != c.want {
			t.Errorf("step from %x by %x: %x, not %x", c.h, c.w, got, c.want)
		}
	}
	for _, h := range samples(50) {
		for _, w := range samples(50) {
			if got, want := seal.Step(h, w), stepByHand(h, w); got != want {
				t.Errorf("step from %x by %x: %x, not %x", h, w, got, want)
			}
		}
	}
}

// P3.1 and P3.2: Back undoes Step, and Step undoes Back.
func TestBack(t *testing.T) {
	if got := seal.Back(0, 0); got != 0 {
		t.Errorf("back from 0 to 0: %x", got)
	}
	for _, h := range samples(200) {
		for _, w := range samples(200) {
			if got := seal.Back(h, seal.Step(h, w)); got != w {
				t.Errorf("the step from %x by %x is undone to %x", h, w, got)
			}
			if got := seal.Step(h, seal.Back(h, w)); got != w {
				t.Errorf("from %x to %x leads to %x", h, w, got)
			}
		}
	}
}

// P3.2: different words lead to different digests, and so do different digests.
func TestStepsAreDifferent(t *testing.T) {
	l := samples(2000)
	slices.Sort(l)
	l = slices.Compact(l)
	for _, fixed := range samples(10) {
		byWord, fromDigest := map[uint64]bool{}, map[uint64]bool{}
		for _, x := range l {
			byWord[seal.Step(fixed, x)] = true
			fromDigest[seal.Step(x, fixed)] = true
		}
		if len(byWord) != len(l) || len(fromDigest) != len(l) {
			t.Errorf("%x: %d words lead to %d digests, and as many digests to %d", fixed, len(l), len(byWord), len(fromDigest))
		}
	}
}

// P3.1: digests of numbers.
func TestWords(t *testing.T) {
	for _, c := range []struct {
		l    []int
		want uint64
	}{
		{nil, 0x7892c2b1b36579a2},
		{[]int{}, 0x7892c2b1b36579a2},
		{[]int{0}, 0xf08fb5eac5619d18},
		{[]int{1, 2, 3}, 0x508dae5e2b667efe},
		{[]int{-1, math.MinInt, math.MaxInt}, 0x0d9b6bf31f7c9d92},
	} {
		if got := seal.Words(c.l); got != c.want {
			t.Errorf("words %v: %x, not %x", c.l, got, c.want)
		}
	}
	for _, l := range lists() {
		if got, want := seal.Words(l), follow(0x706c65787573, wordsOf(l)...); got != want {
			t.Errorf("words %v: %x, not %x", l, got, want)
		}
	}
}

// P3.1: digests of bytes.
func TestBytes(t *testing.T) {
	high := []byte{240, 241, 242, 243, 244, 245, 246, 247, 248, 249, 250, 251, 252, 253, 254, 255, 255, 128}
	for _, c := range []struct {
		b    []byte
		want uint64
	}{
		{nil, 0x87375bc843a3442e},
		{[]byte{}, 0x87375bc843a3442e},
		{[]byte{0}, 0x3d08a1ef48f1414e},
		{[]byte("plexus"), 0x5529361f2ba8a942},
		{[]byte("12345678"), 0x1f7b897379ef5590},
		{[]byte("123456789"), 0x8f671b98cf64d133},
		{high, 0x935210ce7c5658f4},
	} {
		if got := seal.Bytes(c.b); got != c.want {
			t.Errorf("bytes %q: %x, not %x", c.b, got, c.want)
		}
	}
}

// P3.1: bytes of all lengths around whole groups, whatever lies behind them.
func TestBytesInGroups(t *testing.T) {
	all := make([]byte, 70)
	rand.New(rand.NewSource(4)).Read(all)
	for n := range len(all) + 1 {
		h := uint64(0x6c616365)
		filled := append(slices.Clone(all[:n]), make([]byte, 8)...)
		for at := 0; at < n; at += 8 {
			w := uint64(0)
			for _, x := range slices.Backward(filled[at : at+8]) {
				w = w*256 + uint64(x)
			}
			h = stepByHand(h, w)
		}
		if got, want := seal.Bytes(all[:n]), stepByHand(h, uint64(n)); got != want {
			t.Errorf("%d bytes: %x, not %x", n, got, want)
		}
	}
}

// P3.1: joins.
func TestJoin(t *testing.T) {
	for _, c := range []struct{ a, b, want uint64 }{{0, 0, 0x4d31ec2d810f038a}, {5, 6, 0x3f071a8a3b2edf97}, {6, 5, 0x0c847b70d2b1ed99}} {
		if got := seal.Join(c.a, c.b); got != c.want {
			t.Errorf("join of %x and %x: %x, not %x", c.a, c.b, got, c.want)
		}
	}
	for _, a := range samples(20) {
		for _, b := range samples(20) {
			if got, want := seal.Join(a, b), follow(0x6a6f696e, a, b); got != want {
				t.Errorf("join of %x and %x: %x, not %x", a, b, got, want)
			}
		}
	}
}

// P3.1: tags.
func TestTag(t *testing.T) {
	for _, c := range []struct {
		key  uint64
		l    []int
		want uint64
	}{{0, nil, 0x3919f4a241542e29}, {7, []int{1, 2, 3}, 0x8f12f0e776ca5fae}, {math.MaxUint64, []int{0}, 0x0f07f09bfba344f6}} {
		if got := seal.Tag(c.key, c.l); got != c.want {
			t.Errorf("tag of %v with %x: %x, not %x", c.l, c.key, got, c.want)
		}
	}
	for _, key := range samples(10) {
		for _, l := range lists() {
			if got, want := seal.Tag(key, l), follow(key, follow(0x706c65787573, wordsOf(l)...)); got != want {
				t.Errorf("tag of %v with %x: %x, not %x", l, key, got, want)
			}
		}
	}
}

// P3.3: lists that differ in one number.
func TestOneNumberIsChanged(t *testing.T) {
	for _, l := range lists() {
		for i := range l {
			for _, by := range samples(5) {
				changed := slices.Clone(l)
				changed[i] += int(by)
				if changed[i] == l[i] {
					continue
				}
				if seal.Words(changed) == seal.Words(l) {
					t.Errorf("%v and %v have one digest", l, changed)
				}
				if seal.Tag(by, changed) == seal.Tag(by, l) {
					t.Errorf("%v and %v have one tag with %x", l, changed, by)
				}
			}
		}
	}
}

// P3.3: bytes that differ in one group, at one place or at all of them.
func TestOneGroupIsChanged(t *testing.T) {
	for _, n := range []int{1, 5, 7, 8, 9, 15, 16, 17, 40, 43} {
		b := make([]byte, n)
		rand.New(rand.NewSource(int64(n))).Read(b)
		whole := seal.Bytes(b)
		for i := range b {
			for by := 1; by < 256; by++ {
				changed := slices.Clone(b)
				changed[i] += byte(by)
				if seal.Bytes(changed) == whole {
					t.Errorf("%x and %x have one digest", b, changed)
				}
				for k := i / 8 * 8; k < min(n, i/8*8+8); k++ {
					changed[k] = b[k] ^ byte(by)
				}
				if seal.Bytes(changed) == whole {
					t.Errorf("%x and %x have one digest", b, changed)
				}
			}
		}
	}
}

// P3.3: joins that differ in one half.
func TestOneHalfIsChanged(t *testing.T) {
	l := samples(20)
	slices.Sort(l)
	l = slices.Compact(l)
	for _, a := range l {
		left, right := map[uint64]bool{}, map[uint64]bool{}
		for _, b := range l {
			left[seal.Join(a, b)] = true
			right[seal.Join(b, a)] = true
		}
		if len(left) != len(l) || len(right) != len(l) {
			t.Errorf("with %x, %d halves have %d joins behind it and %d before it", a, len(l), len(left), len(right))
		}
	}
}

// P3.4: different keys.
func TestKeys(t *testing.T) {
	keys := samples(500)
	slices.Sort(keys)
	keys = slices.Compact(keys)
	for _, l := range lists() {
		tags := map[uint64]bool{}
		for _, key := range keys {
			tags[seal.Tag(key, l)] = true
		}
		if len(tags) != len(keys) {
			t.Errorf("%v has %d tags with %d keys", l, len(tags), len(keys))
		}
	}
}

// P3.1 (C4): lists stay as they are, and so does what lies behind them.
func TestListsAreNotModified(t *testing.T) {
	numbers, bytes := []int{3, -1, 4, 9, 9}, []byte("abcdefghijklmnop")
	n, b := slices.Clone(numbers), slices.Clone(bytes)
	seal.Words(n[:3])
	seal.Tag(1, n[:3])
	seal.Bytes(b[:10])
	if !slices.Equal(n, numbers) || !slices.Equal(b, bytes) {
		t.Errorf("modified: %v and %q", n, b)
	}
}
