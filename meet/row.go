package meet

import "almagest/api"

// cell is a variable, by its place, and below it the number of the term that it stands for.
type cell uint32

const termBits = 16

func cellOf(place int, term uint16) cell {
	return cell(place)<<termBits | cell(term)
}

func (c cell) place() int { return int(c >> termBits) }

func (c cell) term() uint16 { return uint16(c) }

// bare is the variable alone.
func (c cell) bare() cell { return c >> termBits << termBits }

// row is binds, by rising places. What is behind the n-th is the zero value: so two rows are alike just where their binds are.
type row struct {
	n     int
	cells [api.MaxBinds]cell
}

// put tells false where there is no room for one more.
func (r *row) put(c cell) bool {
	if r.n == len(r.cells) {
		return false
	}
	r.cells[r.n] = c
	r.n++
	return true
}

// join is Join of the binds (2): it tells false where that errs.
func (r *row) join(s *row) (row, bool) {
	var both row
	x, y := r.cells[:r.n], s.cells[:s.n]
	for len(x) > 0 || len(y) > 0 {
		var c cell
		switch {
		case len(y) == 0 || len(x) > 0 && x[0].place() < y[0].place():
			c, x = x[0], x[1:]
		case len(x) == 0 || y[0].place() < x[0].place():
			c, y = y[0], y[1:]
		case x[0] == y[0]:
			c, x, y = x[0], x[1:], y[1:]
		default:
			return row{}, false
		}
		if !both.put(c) {
			return row{}, false
		}
	}
	return both, true
}

// only is what r has of the variables of s.
func (r *row) only(s *row) row {
	var x row
	y := s.cells[:s.n]
	for _, c := range r.cells[:r.n] {
		for len(y) > 0 && y[0].place() < c.place() {
			y = y[1:]
		}
		if len(y) > 0 && y[0].place() == c.place() {
			x.put(c)
		}
	}
	return x
}

// shape is the variables of r alone.
func (r *row) shape() row {
	s := row{n: r.n}
	for i, c := range r.cells[:r.n] {
		s.cells[i] = c.bare()
	}
	return s
}
