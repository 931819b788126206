package code_test

import (
	"slices"
	"testing"

	"plexus/api"
	"plexus/code"
)

// P13.1: the example of the chapter.
func TestExample(t *testing.T) {
	l := newLab(t, 2)
	c := l.of(3, [][]int{{1, 1, 0}, {0, 1, 1}})
	if !same(c, api.Code{Q: 2, N: 3, G: [][]int{{1, 0, 1}, {0, 1, 1}}}) {
		t.Errorf("code of 110 and 011: %v", c)
	}
	if words := l.words(c); !sameLists(words, [][]int{{0, 0, 0}, {0, 1, 1}, {1, 0, 1}, {1, 1, 0}}) {
		t.Errorf("words: %v", words)
	}
	if d, err := code.Distance(c); d != 2 || err != api.OK {
		t.Errorf("distance: %d, error %d", d, err)
	}
	counts, err := code.Weights(c)
	check(t, "weights", counts, err, []int{1, 0, 3, 0})
	if d := code.Dual(c); !same(d, api.Code{Q: 2, N: 3, G: [][]int{{1, 1, 1}}}) {
		t.Errorf("dual: %v", d)
	}
}

// shifted returns rows in which the coefficients of a polynomial are moved to
// the right, step by step, and so many rows.
func shifted(n, count int, coefficients ...int) [][]int {
	rows := make([][]int, count)
	for i := range rows {
		rows[i] = make([]int, n)
		copy(rows[i][i:], coefficients)
	}
	return rows
}

// extended returns rows with a further element behind, for which the sum of all
// elements is 0 modulo p.
func extended(p int, rows [][]int) [][]int {
	for i, row := range rows {
		sum := 0
		for _, a := range row {
			sum += a
		}
		rows[i] = append(row, (p-sum%p)%p)
	}
	return rows
}

// P13.1: known codes, with their weights and the least one of them.
func TestKnownCodes(t *testing.T) {
	golay := extended(2, shifted(23, 12, 1, 0, 1, 0, 1, 1, 1, 0, 0, 0, 1, 1))
	ternary := extended(3, shifted(11, 6, 2, 0, 1, 2, 1, 1))
	for _, c := range []struct {
		what        string
		q, n        int
		rows        [][]int
		k, distance int
		weights     []int
	}{
		{"Hamming's code of length 7", 2, 7, shifted(7, 4, 1, 1, 0, 1), 4, 3, []int{1, 0, 0, 7, 7, 0, 0, 1}},
		{"its dual", 2, 7, shifted(7, 3, 1, 0, 1, 1, 1), 3, 4, []int{1, 0, 0, 0, 7, 0, 0, 0}},
		{"Golay's code of length 24", 2, 24, golay, 12, 8, []int{1, 7: 0, 8: 759, 12: 2576, 16: 759, 24: 1}},
		{"Golay's code of length 12", 3, 12, ternary, 6, 6, []int{1, 5: 0, 6: 264, 9: 440, 12: 24}},
		{"the hexacode", 4, 6, [][]int{{1, 0, 0, 1, 3, 2}, {0, 1, 0, 1, 2, 3}, {0, 0, 1, 1, 1, 1}}, 3, 4, []int{1, 3: 0, 4: 45, 6: 18}},
		{"lines over 5 elements", 5, 4, [][]int{{1, 1, 1, 1}, {1, 2, 3, 4}}, 2, 3, []int{1, 0, 0, 16, 8}},
		{"words of even weight", 2, 5, shifted(5, 4, 1, 1), 4, 2, []int{1, 0, 10, 0, 5, 0}},
		{"equal elements", 16, 24, [][]int{slices.Repeat([]int{9}, 24)}, 1, 24, []int{1, 23: 0, 24: 15}},
		{"all words over 13 elements", 13, 2, identity(2), 2, 1, []int{1, 24, 144}},
		{"one element", 2, 1, [][]int{{1}}, 1, 1, []int{1, 1}},
	} {
		l := newLab(t, c.q)
		made := l.of(c.n, c.rows)
		if code.Dim(made) != c.k || code.Count(made) != l.power(c.k) || len(l.words(made)) != l.power(c.k) {
			t.Errorf("%s: dimension %d, %d words", c.what, code.Dim(made), code.Count(made))
		}
		if d, err := code.Distance(made); d != c.distance || err != api.OK {
			t.Errorf("%s: distance %d, error %d", c.what, d, err)
		}
		counts, err := code.Weights(made)
		check(t, c.what, counts, err, c.weights)
	}
	for _, self := range []api.Code{newLab(t, 2).of(24, golay), newLab(t, 3).of(12, ternary)} {
		if dual := code.Dual(self); !same(dual, self) {
			t.Errorf("dual of Golay's code: %v", dual)
		}
	}
}

// P13.1: Make, Dim, Count and Valid, for all lists of rows that are small.
func TestMakeByHand(t *testing.T) {
	forSmall(t, func(l lab, n int, rows [][]int) {
		words := l.span(n, rows)
		c, err := code.Make(l.q, n, rows)
		if want := (api.Code{Q: l.q, N: n, G: l.form(words)}); !same(c, want) || err != api.OK {
			l.Errorf("code of %v over %d elements: %v, error %d, not %v", rows, l.q, c, err, want)
		}
		if !code.Valid(c) || l.power(code.Dim(c)) != len(words) || code.Count(c) != len(words) {
			l.Errorf("%v: valid: %t, dimension %d, %d words, not %d", c, code.Valid(c), code.Dim(c), code.Count(c), len(words))
		}
	})
}

// P13.1: Make, for rows of each length over each field.
func TestMakeOfMixedRows(t *testing.T) {
	bigOnes := 0
	forCodes(t, func(l lab, c api.Code, count int) {
		got, err := code.Make(c.Q, c.N, l.mixed(c.N, c.G))
		if count > 4096 {
			bigOnes++
			if !same(got, api.Code{}) || err != api.ErrBig {
				l.Errorf("%v has more than 4096 words, but is made: %v, error %d", c, got, err)
			}
		} else if !same(got, c) || err != api.OK {
			l.Errorf("code of mixed rows: %v, error %d, not %v", got, err, c)
		}
	})
	if bigOnes < 1000 {
		t.Errorf("only %d codes with more than 4096 words", bigOnes)
	}
}

// P13.1: Dim, Count and Valid, also with more than 4096 words.
func TestDimensions(t *testing.T) {
	forCodes(t, func(l lab, c api.Code, count int) {
		if !code.Valid(c) || code.Dim(c) != len(c.G) || code.Count(c) != count {
			l.Errorf("%v: valid: %t, dimension %d, %d words, not %d", c, code.Valid(c), code.Dim(c), code.Count(c), count)
		}
	})
}

// P13.1: Dual, for all words that are small.
func TestDualByHand(t *testing.T) {
	forSmall(t, func(l lab, n int, rows [][]int) {
		var orthogonal [][]int
		for _, w := range l.span(n, identity(n)) {
			if pivot(l.products(w, rows)) < 0 {
				orthogonal = append(orthogonal, w)
			}
		}
		want := api.Code{Q: l.q, N: n, G: l.form(orthogonal)}
		if dual := code.Dual(l.of(n, rows)); !same(dual, want) {
			l.Errorf("dual of the code of %v over %d elements: %v, not %v", rows, l.q, dual, want)
		}
	})
}

// P13.1: Words, Weights and Distance.
func TestWordsByHand(t *testing.T) {
	forCodes(t, func(l lab, c api.Code, count int) {
		words, err := code.Words(c)
		counts, errWeights := code.Weights(c)
		d, errDistance := code.Distance(c)
		if count > 4096 {
			if len(words) != 0 || err != api.ErrBig || d != 0 || errDistance != api.ErrBig {
				l.Errorf("%v: %d words, error %d, distance %d, error %d", c, len(words), err, d, errDistance)
			}
			checkRefused(l.T, "Weights", counts, errWeights, api.ErrBig)
			return
		}
		var want [][]int
		for i := range count {
			want = append(want, l.sum(c.N, c.G, l.message(i, len(c.G))))
		}
		if !sameLists(words, want) || err != api.OK {
			l.Errorf("words of %v: %v, error %d, not %v", c, words, err, want)
		}
		wantCounts := weights(c.N, want)
		check(l.T, "weights", counts, errWeights, wantCounts)
		least, wantErr := 1+slices.IndexFunc(wantCounts[1:], func(n int) bool { return n > 0 }), api.OK
		if len(c.G) == 0 {
			wantErr = api.ErrNone
		}
		if d != least || errDistance != wantErr {
			l.Errorf("distance of %v: %d, error %d, not %d", c, d, errDistance, least)
		}
	})
}

// P13.1: Encode, Message and Syndrome, for all words that are small.
func TestMessagesByHand(t *testing.T) {
	forSmall(t, func(l lab, n int, rows [][]int) {
		c := l.of(n, rows)
		dual, messages := code.Dual(c), map[string][]int{}
		for i := range code.Count(c) {
			msg := l.message(i, code.Dim(c))
			want := l.sum(n, c.G, msg)
			w, err := code.Encode(c, msg)
			check(t, "Encode", w, err, want)
			messages[text(want)] = msg
		}
		for _, w := range l.span(n, identity(n)) {
			msg, err := code.Message(c, w)
			if want, is := messages[text(w)]; is {
				check(t, "Message", msg, err, want)
			} else {
				checkRefused(t, "Message", msg, err, api.ErrNot)
			}
			s, err := code.Syndrome(c, w)
			check(t, "Syndrome", s, err, l.products(w, dual.G))
		}
	})
}

// text returns a key for a word.
func text(w []int) string {
	s := ""
	for _, a := range w {
		s += string(rune('a' + a))
	}
	return s
}

// P13.1: Encode, Message and Syndrome, also with more than 4096 words.
func TestMessagesOfAllCodes(t *testing.T) {
	others := 0
	forCodes(t, func(l lab, c api.Code, _ int) {
		msg := l.drawn(len(c.G))
		want := l.sum(c.N, c.G, msg)
		w, err := code.Encode(c, msg)
		check(l.T, "Encode", w, err, want)
		got, err := code.Message(c, want)
		check(l.T, "Message", got, err, msg)
		dual := code.Dual(c)
		for _, w := range [][]int{want, l.drawn(c.N), l.plus(want, l.drawn(c.N))} {
			s, err := code.Syndrome(c, w)
			check(l.T, "Syndrome", s, err, l.products(w, dual.G))
		}
		// It is a word exactly if what its pivots say makes it.
		other := l.plus(want, l.times(l.from(1, l.q-1), identity(c.N)[l.source.Intn(c.N)]))
		msg = nil
		for _, row := range c.G {
			msg = append(msg, other[pivot(row)])
		}
		got, err = code.Message(c, other)
		if slices.Equal(l.sum(c.N, c.G, msg), other) {
			check(l.T, "Message", got, err, msg)
		} else {
			others++
			checkRefused(l.T, "Message", got, err, api.ErrNot)
		}
	})
	if others < 1000 {
		t.Errorf("only %d words are none of their codes", others)
	}
}

// P13.1, P13.7: Make refuses what is no field, or too large a one, and what is no
// length.
func TestNoFieldsAndLengths(t *testing.T) {
	refuse := func(q, n int, rows [][]int) {
		t.Helper()
		if c, err := code.Make(q, n, rows); !same(c, api.Code{}) || err != api.ErrArg {
			t.Errorf("code of length %d over %d elements: %v, error %d", n, q, c, err)
		}
		if c := (api.Code{Q: q, N: n, G: rows}); code.Valid(c) {
			t.Errorf("valid: %v", c)
		}
	}
	for q := -70; q <= 70; q++ {
		for n := 1; n <= 24; n++ {
			if !slices.Contains(sizes, q) {
				refuse(q, n, nil)
				refuse(q, n, identity(n))
				refuse(q, n, [][]int{make([]int, n)})
			}
		}
	}
	for _, n := range extremes {
		for _, q := range extremes {
			if !slices.Contains(sizes, q) || n < 1 || n > 24 {
				refuse(q, n, nil)
			}
		}
	}
	for _, q := range sizes {
		for _, n := range []int{25, 26, 64} {
			refuse(q, n, [][]int{identity(n)[0]})
			refuse(q, n, identity(n))
		}
		refuse(q, 0, [][]int{nil})
	}
}

// P13.1, P13.7: rows that are no words, at each place.
func TestNoRows(t *testing.T) {
	forFew(t, 256, func(l lab, c api.Code, _ int) {
		for i := range len(c.G) + 1 {
			for _, other := range others(l, c.N) {
				rows := slices.Insert(cloned(c.G), i, other)
				if made, err := code.Make(c.Q, c.N, rows); !same(made, api.Code{}) || err != api.ErrArg {
					l.Errorf("code of length %d over %d elements of %v: %v, error %d", c.N, c.Q, rows, made, err)
				}
				if code.Valid(api.Code{Q: c.Q, N: c.N, G: rows}) {
					l.Errorf("valid, of length %d over %d elements: %v", c.N, c.Q, rows)
				}
			}
		}
	})
}

// others returns lists that are no words of length n: they have another length,
// or elements that there are not.
func others(l lab, n int) [][]int {
	w := l.drawn(n)
	lists := [][]int{w[1:], append(slices.Clone(w), 0), append(slices.Clone(w), w...)}
	for _, a := range extremes {
		if a < 0 || a >= l.q {
			list := slices.Clone(w)
			list[l.source.Intn(n)] = a
			lists = append(lists, list)
		}
	}
	for i := range w {
		list := slices.Clone(w)
		list[i] = l.q
		lists = append(lists, list)
	}
	return lists
}

// P13.1: there are at most 64 rows, also if they are all equal, and this comes
// before the number of words.
func TestManyRows(t *testing.T) {
	for _, q := range sizes {
		l := newLab(t, q)
		for n := 1; n <= 24; n++ {
			w := l.drawn(n)
			if c := l.of(n, slices.Repeat([][]int{w}, 64)); !same(c, l.of(n, [][]int{w})) {
				t.Errorf("code of %v, 64 times: %v", w, c)
			}
			for _, rows := range [][][]int{slices.Repeat([][]int{w}, 65), slices.Repeat(identity(n), 65), make([][]int, 65), make([][]int, 1000)} {
				if c, err := code.Make(q, n, rows); !same(c, api.Code{}) || err != api.ErrArg {
					t.Errorf("code of %d rows: %v, error %d", len(rows), c, err)
				}
			}
		}
	}
}

// P13.1: the most words, and rows that are no words where there would be more.
func TestMostWords(t *testing.T) {
	for q, most := range map[int]int{2: 12, 3: 7, 4: 6, 5: 5, 7: 4, 8: 4, 9: 3, 11: 3, 13: 3, 16: 3} {
		l := newLab(t, q)
		for n := 1; n <= 24; n++ {
			k := min(most, n)
			if c := l.of(n, identity(n)[:k]); code.Count(c) != l.power(k) || len(l.words(c)) != l.power(k) {
				t.Errorf("%d words over %d elements, not %d", code.Count(c), q, l.power(k))
			}
			if k == n {
				continue
			}
			for i := range 3 {
				rows, want := append(identity(n)[:k+1], make([]int, n)), api.ErrBig
				switch i {
				case 1:
					rows[k+1], want = make([]int, n-1), api.ErrArg
				case 2:
					rows[k+1][n-1], want = q, api.ErrArg
				}
				if c, err := code.Make(q, n, rows); !same(c, api.Code{}) || err != want {
					t.Errorf("code of %v over %d elements: %v, error %d, not %d", rows, q, c, err, want)
				}
			}
		}
	}
}

// P13.1, P13.7: messages and words that are refused, and which error comes first.
func TestNoWords(t *testing.T) {
	forCodes(t, func(l lab, c api.Code, _ int) {
		for _, w := range others(l, c.N) {
			msg, err := code.Message(c, w)
			checkRefused(l.T, "Message", msg, err, api.ErrArg)
			s, err := code.Syndrome(c, w)
			checkRefused(l.T, "Syndrome", s, err, api.ErrArg)
		}
		k := len(c.G)
		for _, msg := range append(others(l, max(k, 1)), make([]int, k+1), make([]int, k+24)) {
			if k == 0 && len(msg) == 0 {
				continue
			}
			w, err := code.Encode(c, msg)
			checkRefused(l.T, "Encode", w, err, api.ErrArg)
		}
	})
}
