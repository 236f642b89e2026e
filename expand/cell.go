package expand

// cell is a token of a list that is being expanded. What is left of the list is a stack, its first token on top. What stands below a cell never changes: so a part of a list is a list, too, and need not be copied.
type cell struct {
	token
	below   *cell
	closing *cell // of a ( that has been looked at: the ) that closes it
}

// piece is a part of a list: the cells from one on, ahead of another (or all of them, if that is nil).
type piece struct{ from, end *cell }

// push lays cells that hold their tokens on a stack, the first one on top, and answers what is on top then.
func push(cells []cell, top *cell) *cell {
	for i := len(cells) - 1; i >= 0; i-- {
		cells[i].below = top
		top = &cells[i]
	}
	return top
}

// divide is what the commas of the call that open begins divide it into, and the ) that closes it, or nil if none does ahead of end.
func divide(open, end *cell) (pieces []piece, closing *cell) {
	from := open.below
reading:
	for c := from; c != end; c = c.below {
		switch {
		case is(c.PTok, "("):
			if c = closingOf(c, end); c == nil {
				break reading
			}
		case is(c.PTok, ","):
			pieces = append(pieces, piece{from: from, end: c})
			from = c.below
		case is(c.PTok, ")"):
			pieces, closing = append(pieces, piece{from: from, end: c}), c
			break reading
		}
	}
	return pieces, closing
}

// closingOf is the ) that closes a ( , or nil if none does ahead of end. It is noted, with those of all brackets in between: otherwise what stands within many calls would be gone through for each of them.
func closingOf(open, end *cell) *cell {
	if open.closing != nil {
		return open.closing
	}
	opened := []*cell{open}
	for c := open.below; c != end; c = c.below {
		switch {
		case is(c.PTok, "(") && c.closing != nil:
			c = c.closing
		case is(c.PTok, "("):
			opened = append(opened, c)
		case is(c.PTok, ")"):
			last := len(opened) - 1
			opened[last].closing = c
			opened = opened[:last]
			if last == 0 {
				return c
			}
		}
	}
	return nil
}
