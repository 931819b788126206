package square

// triple is a cell of a square: its row, its column and its symbol.
type triple [3]int

// The places in a triple.
const (
	row = iota
	column
	symbol
)

// triples returns the cells of l.
func triples(l [][]int) []triple {
	cells := make([]triple, 0, len(l)*len(l))
	for i, symbols := range l {
		for j, s := range symbols {
			cells = append(cells, triple{i, j, s})
		}
	}
	return cells
}

// inCommon returns how many of its three numbers t has in common with u.
func (t triple) inCommon(u triple) int {
	n := 0
	for part := range t {
		if t[part] == u[part] {
			n++
		}
	}
	return n
}

// isApart reports whether t has nothing in common with any of cells.
func (t triple) isApart(cells []triple) bool {
	for _, u := range cells {
		if t.inCommon(u) > 0 {
			return false
		}
	}
	return true
}

// made returns the square of order n with these symbols.
func made(n int, symbolAt func(i, j int) int) [][]int {
	l := make([][]int, n)
	for i := range l {
		l[i] = make([]int, n)
		for j := range l[i] {
			l[i][j] = symbolAt(i, j)
		}
	}
	return l
}

func cyclic(n int) [][]int {
	return made(n, func(i, j int) int { return (i + j) % n })
}

// changed returns the square of what change makes of the triples of l.
func changed(l [][]int, change func(t triple) triple) [][]int {
	square := made(len(l), func(i, j int) int { return 0 })
	for _, t := range triples(l) {
		u := change(t)
		square[u[row]][u[column]] = u[symbol]
	}
	return square
}

// conjugates returns, for each conjugate, what makes its triples.
func conjugates() [6]func(t triple) triple {
	inOrder := func(first, second, third int) func(t triple) triple {
		return func(t triple) triple { return triple{t[first], t[second], t[third]} }
	}
	return [...]func(t triple) triple{
		inOrder(row, column, symbol),
		inOrder(row, symbol, column),
		inOrder(column, row, symbol),
		inOrder(column, symbol, row),
		inOrder(symbol, row, column),
		inOrder(symbol, column, row),
	}
}

// classes returns, for each number that a triple of l can have at this place,
// the places of the square where it has it, as points of a net.
func classes(l [][]int, part int) [][]int {
	places := make([][]int, len(l))
	for _, t := range triples(l) {
		class := t[part]
		places[class] = append(places[class], t[row]*len(l)+t[column])
	}
	return places
}
