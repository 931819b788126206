package incidence

import "plexus/api"

// Text returns the text of x (F5).
func Text(x api.Inc) string {
	if !Valid(x) {
		return ""
	}
	text := append(appendNumber(nil, x.V), ':')
	for _, b := range x.B {
		text = appendBlock(append(text, ' '), set(b))
	}
	return string(text)
}

// Parse returns the valid structure whose text is s (F5).
func Parse(s string) (x api.Inc, err api.Errno) {
	defer func() {
		if recover() != nil {
			x, err = api.Inc{}, api.ErrForm
		}
	}()
	r := reader{rest: s}
	x = r.structure()
	// Reading is generous, since whatever else is read differs from its text.
	r.require(Valid(x) && Text(x) == s)
	return x, api.OK
}

// appendNumber appends the decimal digits of n, of which no point and no number
// of points has more than two.
func appendNumber(text []byte, n int) []byte {
	if n > 9 {
		text = append(text, '0'+byte(n/10))
	}
	return append(text, '0'+byte(n%10))
}

func appendBlock(text []byte, b set) []byte {
	if b == 0 {
		return append(text, '-')
	}
	first := true
	for p := range b.points {
		if !first {
			text = append(text, ',')
		}
		text = appendNumber(text, p)
		first = false
	}
	return text
}

// reader cuts a text, of which rest is what it has not read yet. Its methods
// panic if the text goes on in another way.
type reader struct{ rest string }

// require panics unless what is required of the text holds.
func (r *reader) require(holds bool) {
	if !holds {
		panic(api.ErrForm)
	}
}

// skip reads c if it comes next, and reports whether it does.
func (r *reader) skip(c byte) bool {
	if r.rest == "" || r.rest[0] != c {
		return false
	}
	r.rest = r.rest[1:]
	return true
}

func (r *reader) structure() api.Inc {
	x := api.Inc{V: r.number()}
	r.require(r.skip(':'))
	for r.rest != "" {
		// Here and not only in the end, since a text may be very long.
		r.require(len(x.B) < api.MaxBlocks)
		r.require(r.skip(' '))
		x.B = append(x.B, uint64(r.block()))
	}
	return x
}

func (r *reader) block() set {
	if r.skip('-') {
		return 0
	}
	b := set(0).with(r.number())
	for r.skip(',') {
		b = b.with(r.number())
	}
	return b
}

// number reads digits, and returns the number that they say.
func (r *reader) number() int {
	n := r.digit()
	for r.hasDigit() {
		n = 10*n + r.digit()
		// Nothing in a text is greater, and more digits might not fit an int.
		r.require(n <= api.MaxPoints)
	}
	return n
}

func (r *reader) hasDigit() bool {
	return r.rest != "" && r.rest[0] >= '0' && r.rest[0] <= '9'
}

func (r *reader) digit() int {
	r.require(r.hasDigit())
	d := int(r.rest[0] - '0')
	r.rest = r.rest[1:]
	return d
}
