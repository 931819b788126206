package incidence_test

import (
	"math/rand"
	"regexp"
	"strconv"
	"strings"
	"testing"

	"plexus/api"
	"plexus/incidence"
)

// textByHand returns the text of a structure.
func textByHand(x api.Inc) string {
	s := strconv.Itoa(x.V) + ":"
	for _, block := range lists(x) {
		var digits []string
		for _, p := range block {
			digits = append(digits, strconv.Itoa(p))
		}
		if len(digits) == 0 {
			digits = []string{"-"}
		}
		s += " " + strings.Join(digits, ",")
	}
	return s
}

// P6.1 and P6.7: Text, and Parse of what it returns.
func TestTexts(t *testing.T) {
	for _, x := range samples() {
		s := incidence.Text(x)
		if want := textByHand(x); s != want {
			t.Errorf("Text of %v: %q, not %q", x, s, want)
		}
		checkParse(t, s, x)
	}
}

// checkParse fails the test unless s is read as the structure x.
func checkParse(t *testing.T, s string, x api.Inc) {
	t.Helper()
	got, err := incidence.Parse(s)
	if !same(got, x) || err != api.OK {
		t.Errorf("Parse of %q: %v, error %d, not %v", s, got, err, x)
	}
}

// checkNoText fails the test unless s is refused.
func checkNoText(t *testing.T, s string) {
	t.Helper()
	x, err := incidence.Parse(s)
	checkRefused(t, "Parse of "+strconv.Quote(s), x, err, api.ErrForm)
}

// P6.1: texts at the limits, with values that were written by hand.
func TestTextsByHand(t *testing.T) {
	for _, c := range []struct {
		x api.Inc
		s string
	}{
		{api.Inc{V: 1}, "1:"},
		{api.Inc{V: 9}, "9:"},
		{api.Inc{V: 10}, "10:"},
		{api.Inc{V: 16}, "16:"},
		{api.Inc{V: 1, B: []uint64{0, 1, 1}}, "1: - 0 0"},
		{api.Inc{V: 3, B: []uint64{0, 2, 5}}, "3: - 1 0,2"},
		{api.Inc{V: 16, B: []uint64{1<<15 | 1<<10 | 1<<9 | 1}}, "16: 0,9,10,15"},
		{api.Inc{V: 16, B: []uint64{1<<16 - 1}}, "16: 0,1,2,3,4,5,6,7,8,9,10,11,12,13,14,15"},
		{api.Inc{V: 2, B: make([]uint64, 64)}, "2:" + strings.Repeat(" -", 64)},
	} {
		if got := incidence.Text(c.x); got != c.s {
			t.Errorf("Text of %v: %q, not %q", c.x, got, c.s)
		}
		checkParse(t, c.s, c.x)
	}
}

// P6.7: what is no text.
func TestOthersAreNoTexts(t *testing.T) {
	for _, s := range []string{
		"", ":", " ", "-", "3", "a", "3;", "3 :", " 3:", "+3:", "-3:", "3.:", "３:", "3:\x00", "\xff", "3: \xff",
		"0:", "17:", "18:", "20:", "99:", "160:", "00:", "03:", "016:", "0:-", "0: -",
		"3:-", "3:0", "3: ", "3:  ", "3:  1", "3: 1 ", "3: 1  2", "3:\t1", "3: 1\n", "\n3: 1", "3: 1\t2", "3::", "3: :",
		"3: --", "3: -1", "3: 1-", "3: -,1", "3: 1,-", "3: 0 -", "3: - 1 -", "3: -0",
		"3: 3", "3: 4", "3: 0,3", "1: 1", "15: 15", "16: 16", "16: 17", "16: 99", "16: 0,16",
		"3: 00", "3: 01", "3: 0,01", "16: 010", "3: 0x1", "3: +1", "3: 1e0", "3: 1.0", "3: 1_0",
		"3: ,", "3: ,1", "3: 1,", "3: 0,,1", "3: 0, 1", "3: 0 ,1", "3: 0;1", "3: 0,1,",
		"3: 1,0", "3: 0,0", "3: 0,1,1", "3: 0,2,1", "3: 2,1,0", "16: 10,9",
		"3: 1 0", "3: 2 0,1", "3: 0,2 0,1", "3: 0 1 0", "16: 15 0,1",
		"2:" + strings.Repeat(" -", 65), "2:" + strings.Repeat(" -", 64) + " ", "2:" + strings.Repeat(" -", 64) + " 0", "16:" + strings.Repeat(" 15", 65),
		"18446744073709551619:", "4294967299: 1", "3: 18446744073709551617", "3: 4294967297", "16: 64", "16: 256", "16: 0,64",
		strings.Repeat("9", 100000) + ":", strings.Repeat("0", 100000) + "3:", "3: " + strings.Repeat("1", 100000), "3: " + strings.Repeat("0,", 100000) + "0", "3: 0,1" + strings.Repeat(" 0,1", 100000),
	} {
		checkNoText(t, s)
	}
}

// forStrings runs a test for each string of at most so many of the characters.
func forStrings(characters string, most int, test func(s string)) {
	b := make([]byte, 0, most)
	var extend func()
	extend = func() {
		test(string(b))
		if len(b) == most {
			return
		}
		for i := range len(characters) {
			b = append(b, characters[i])
			extend()
			b = b[:len(b)-1]
		}
	}
	extend()
}

// blocksUpTo returns the blocks of v points that have at most so many characters
// in a text, increasing.
func blocksUpTo(v, most int) []uint64 {
	var blocks []uint64
	for b := range uint64(1) << v {
		if s := textByHand(api.Inc{V: 1, B: []uint64{b}}); len(s)-len("1: ") <= most {
			blocks = append(blocks, b)
		}
	}
	return blocks
}

// textsUpTo returns all texts of at most so many characters, with what is said.
func textsUpTo(most int) map[string]api.Inc {
	texts := map[string]api.Inc{}
	for v := 1; v <= api.MaxPoints; v++ {
		blocks := blocksUpTo(v, most-len("1: "))
		var extend func(x api.Inc, from int)
		extend = func(x api.Inc, from int) {
			s := textByHand(x)
			if len(s) > most {
				return
			}
			texts[s] = x
			for i := from; i < len(blocks); i++ {
				extend(api.Inc{V: v, B: append(x.B[:len(x.B):len(x.B)], blocks[i])}, i)
			}
		}
		extend(api.Inc{V: v}, 0)
	}
	return texts
}

// P6.7: of all short strings those are accepted that are texts.
func TestShortStrings(t *testing.T) {
	for _, c := range []struct {
		characters string
		most       int
	}{{"0123:, -", 7}, {"013689:;. ,-+a\n", 5}} {
		texts, found := textsUpTo(c.most), 0
		forStrings(c.characters, c.most, func(s string) {
			x, is := texts[s]
			got, err := incidence.Parse(s)
			if is && (!same(got, x) || err != api.OK) || !is && (got.V != 0 || len(got.B) != 0 || err != api.ErrForm) {
				t.Fatalf("Parse of %q: %v, error %d", s, got, err)
			}
			if is {
				found++
			}
		})
		if found < 15 {
			t.Errorf("only %d texts among the strings of %q", found, c.characters)
		}
	}
}

// parseByHand reads a text, and reports whether it is one.
func parseByHand(s string) (api.Inc, bool) {
	shape := regexp.MustCompile(`^([1-9][0-9]?):(?: (?:-|(?:0|[1-9][0-9]?)(?:,(?:0|[1-9][0-9]?))*))*$`)
	if !shape.MatchString(s) || strings.Contains(s, "\n") {
		return api.Inc{}, false
	}
	parts := strings.Split(s, " ")
	v, _ := strconv.Atoi(strings.TrimSuffix(parts[0], ":"))
	var l [][]int
	for _, part := range parts[1:] {
		var block []int
		if part != "-" {
			for digits := range strings.SplitSeq(part, ",") {
				p, _ := strconv.Atoi(digits)
				if p >= v || len(block) > 0 && p <= block[len(block)-1] {
					return api.Inc{}, false
				}
				block = append(block, p)
			}
		}
		if len(l) > 0 && number(block) < number(l[len(l)-1]) {
			return api.Inc{}, false
		}
		l = append(l, block)
	}
	return structure(v, l), v <= api.MaxPoints && len(l) <= api.MaxBlocks
}

// altered returns s with some of its characters left out, put in, changed or
// exchanged.
func altered(source *rand.Rand, s string) string {
	const characters = "0123456789,, : -"
	b := []byte(s)
	for range 1 + source.Intn(2) {
		i, j, c := source.Intn(len(b)+1), source.Intn(len(b)+1), characters[source.Intn(len(characters))]
		switch {
		case source.Intn(3) == 0:
			b = append(b[:i], append([]byte{c}, b[i:]...)...)
		case i == len(b) || j == len(b):
		case source.Intn(3) == 0:
			b = append(b[:i], b[i+1:]...)
		case source.Intn(2) == 0:
			b[i], b[j] = b[j], b[i]
		default:
			b[i] = c
		}
	}
	return string(b)
}

// P6.7: texts that were altered.
func TestAlteredTexts(t *testing.T) {
	source, accepted, refused := rand.New(rand.NewSource(8)), 0, 0
	for _, x := range samples() {
		for range 20 {
			s := altered(source, textByHand(x))
			if y, is := parseByHand(s); is {
				checkParse(t, s, y)
				accepted++
			} else {
				checkNoText(t, s)
				refused++
			}
		}
	}
	if accepted < 1000 || refused < 1000 {
		t.Errorf("%d accepted, %d refused", accepted, refused)
	}
}
