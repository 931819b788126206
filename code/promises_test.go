package code_test

import (
	"slices"
	"testing"

	"plexus/api"
	"plexus/code"
)

// P13.2: the order of rows, for all orders of up to 4 of them, and further rows
// that are sums of multiples of others.
func TestGenerators(t *testing.T) {
	changed := 0
	forFew(t, 4096, func(l lab, c api.Code, _ int) {
		k := min(4, len(c.G))
		rows := l.mixed(c.N, c.G[:k])
		want := l.of(c.N, rows)
		if k > 1 && !slices.Equal(rows[0], want.G[0]) {
			changed++
		}
		for _, order := range orders(len(rows)) {
			var turned [][]int
			for _, i := range order {
				turned = append(turned, rows[i])
			}
			if got := l.of(c.N, turned); !same(got, want) {
				l.Errorf("code of %v: %v, but of %v: %v", rows, want, turned, got)
			}
		}
		for i := range len(rows) + 1 {
			more := slices.Insert(slices.Clone(rows), i, l.sum(c.N, rows, l.drawn(len(rows))))
			if got := l.of(c.N, more); !same(got, want) {
				l.Errorf("code of %v: %v, but of %v: %v", rows, want, more, got)
			}
		}
		for _, row := range rows {
			if _, err := code.Message(want, row); err != api.OK {
				l.Errorf("%v is no word of its code %v: error %d", row, want, err)
			}
		}
	})
	if changed < 500 {
		t.Errorf("only %d lists of rows are no reduced ones", changed)
	}
}

// orders returns all orders of n numbers for up to 4 of them, and of more ones
// those that exchange two of them.
func orders(n int) [][]int {
	if n > 4 {
		var l [][]int
		for j := range n {
			for i := range j {
				order := numbers(n)
				order[i], order[j] = j, i
				l = append(l, order)
			}
		}
		return l
	}
	l := [][]int{nil}
	for i := range n {
		var longer [][]int
		for _, order := range l {
			for at := range i + 1 {
				longer = append(longer, slices.Insert(slices.Clone(order), at, i))
			}
		}
		l = longer
	}
	return l
}

// numbers returns the numbers less than n.
func numbers(n int) []int {
	var l []int
	for i := range n {
		l = append(l, i)
	}
	return l
}

// P13.2: a row more that is no word of the code makes another code.
func TestFurtherGenerators(t *testing.T) {
	further := 0
	forFew(t, 256, func(l lab, c api.Code, _ int) {
		row := l.drawn(c.N)
		more := l.of(c.N, append(cloned(c.G), row))
		_, err := code.Message(c, row)
		if (err == api.OK) != same(more, c) {
			l.Errorf("%v is a word of %v: error %d, but with it there is the code %v", row, c, err, more)
		}
		if err == api.ErrNot {
			further++
			if code.Dim(more) != code.Dim(c)+1 {
				l.Errorf("dimension of %v, and of %v with the row %v: %d", c, more, row, code.Dim(more))
			}
		}
	})
	if further < 300 {
		t.Errorf("only %d rows are no words", further)
	}
}

// P13.3: sums and multiples of words, of all of them if there are few.
func TestSumsAndMultiples(t *testing.T) {
	forFew(t, 4096, func(l lab, c api.Code, _ int) {
		words := l.words(c)
		isWord := map[string]bool{}
		for _, w := range words {
			isWord[text(w)] = true
		}
		step := 1 + len(words)/32
		for i := 0; i < len(words); i += step {
			v := words[i]
			for a := range l.q {
				if !isWord[text(l.times(a, v))] {
					l.Errorf("%d times %v is no word of %v", a, v, c)
				}
			}
			for j := l.source.Intn(step); j < len(words); j += step {
				if !isWord[text(l.plus(v, words[j]))] {
					l.Errorf("%v and %v have a sum that is no word of %v", v, words[j], c)
				}
			}
		}
	})
}

// P13.3: words increase, and each of them has its message.
func TestWordsHaveMessages(t *testing.T) {
	forFew(t, 512, func(l lab, c api.Code, _ int) {
		words := l.words(c)
		for i, w := range words {
			if i > 0 && slices.Compare(words[i-1], w) >= 0 {
				l.Errorf("%v comes before %v in %v", words[i-1], w, c)
			}
			msg, err := code.Message(c, w)
			check(l.T, "Message", msg, err, l.message(i, len(c.G)))
			again, err := code.Encode(c, msg)
			check(l.T, "Encode", again, err, w)
		}
	})
}

// P13.4: dimensions, products, and the dual of the dual.
func TestDuals(t *testing.T) {
	forCodes(t, func(l lab, c api.Code, _ int) {
		dual := code.Dual(c)
		if !code.Valid(dual) || dual.Q != c.Q || dual.N != c.N || code.Dim(c)+code.Dim(dual) != c.N {
			l.Errorf("dual of %v: %v", c, dual)
		}
		for _, w := range dual.G {
			if pivot(l.products(w, c.G)) >= 0 {
				l.Errorf("products of %v with %v: %v", w, c, l.products(w, c.G))
			}
		}
		if back := code.Dual(dual); !same(back, c) {
			l.Errorf("dual of the dual of %v: %v", c, back)
		}
	})
}

// syndrome returns that of a word, and fails the test if there is an error.
func syndrome(l lab, c api.Code, w []int) []int {
	l.Helper()
	s, err := code.Syndrome(c, w)
	if err != api.OK || len(s) != c.N-len(c.G) {
		l.Fatalf("syndrome of %v for %v: %v, error %d", w, c, s, err)
	}
	return s
}

// P13.5: the syndrome of a sum, and words with the syndrome 0.
func TestSyndromes(t *testing.T) {
	words := [2]int{}
	forCodes(t, func(l lab, c api.Code, _ int) {
		v, w := l.drawn(c.N), l.sum(c.N, c.G, l.drawn(len(c.G)))
		for _, pair := range [][2][]int{{v, v}, {v, w}, {w, w}, {v, l.drawn(c.N)}, {w, identity(c.N)[0]}} {
			a, b := syndrome(l, c, pair[0]), syndrome(l, c, pair[1])
			both := l.plus(pair[0], pair[1])
			sum := syndrome(l, c, both)
			if !slices.Equal(sum, l.plus(a, b)) {
				l.Errorf("syndromes of %v and %v for %v: %v and %v, and of the sum %v", pair[0], pair[1], c, a, b, sum)
			}
			_, err := code.Message(c, both)
			switch isZero := pivot(sum) < 0; {
			case isZero && err == api.OK:
				words[0]++
			case !isZero && err == api.ErrNot:
				words[1]++
			default:
				l.Errorf("syndrome of %v for %v: %v, but as a word it has error %d", both, c, sum, err)
			}
		}
	})
	if words[0] < 1000 || words[1] < 1000 {
		t.Errorf("%d words of codes, and %d others", words[0], words[1])
	}
}

// P13.5: syndromes of all words that are small.
func TestSyndromesOfAllWords(t *testing.T) {
	forSmall(t, func(l lab, n int, rows [][]int) {
		c := l.of(n, rows)
		words := l.words(c)
		for _, w := range l.span(n, identity(n)) {
			if s := syndrome(l, c, w); (pivot(s) < 0) != contains(words, w) {
				l.Errorf("syndrome of %v for %v: %v", w, c, s)
			}
		}
	})
}

// P13.6.
func TestDistances(t *testing.T) {
	found := map[int]int{}
	forFew(t, 256, func(l lab, c api.Code, _ int) {
		d, err := code.Distance(c)
		if len(c.G) == 0 {
			if d != 0 || err != api.ErrNone {
				l.Errorf("distance of %v: %d, error %d", c, d, err)
			}
			return
		}
		found[d]++
		if least := leastDistance(l.words(c)); d != least || err != api.OK {
			l.Errorf("distance of %v: %d, error %d, but two words differ in %d elements", c, d, err, least)
		}
	})
	if len(found) < 15 {
		t.Errorf("distances: %v", found)
	}
}
