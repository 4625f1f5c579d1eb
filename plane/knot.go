package plane

// piece is a connected set of nodes, with the set of those to which edges lead from it.
type piece struct{ set, near int }

// neighbours returns the set of the nodes to which edges lead from a set.
func (g graph) neighbours(set int) int {
	out := 0
	for _, ends := range g.edges {
		if has(set, ends[0]) {
			out |= 1 << ends[1]
		}
		if has(set, ends[1]) {
			out |= 1 << ends[0]
		}
	}
	return out
}

// piece returns a set as a piece, if it is not empty, has nodes of the graph only, and is connected.
func (g graph) piece(set int) (piece, bool) {
	if set < 1 || set >= 1<<g.n {
		return piece{}, false
	}
	reached := set & -set
	for range g.n {
		reached |= g.neighbours(reached) & set
	}
	return piece{set, g.neighbours(set)}, reached == set
}

// mustTouch says whether there is an edge between two sets of a knot of so many.
func mustTouch(many, a, b int) bool {
	return many == 5 || (a < 3) != (b < 3)
}

// fits says whether a piece can stand behind others in a knot of so many.
func (p piece) fits(many int, others []piece) bool {
	for i, other := range others {
		if p.set&other.set != 0 || mustTouch(many, i, len(others)) && p.set&other.near == 0 {
			return false
		}
	}
	return true
}

func (g graph) isKnot(knot []int) bool {
	if len(knot) != 5 && len(knot) != 6 {
		return false
	}
	var pieces []piece
	for _, set := range knot {
		p, ok := g.piece(set)
		if !ok || !p.fits(len(knot), pieces) {
			return false
		}
		pieces = append(pieces, p)
	}
	return true
}

func (g graph) pieces() []piece {
	var out []piece
	for set := range 1 << g.n {
		if p, ok := g.piece(set); ok {
			out = append(out, p)
		}
	}
	return out
}

// knot looks for one of so many sets. Sets whose order does not matter are tried in one order only.
func (g graph) knot(many int) ([]int, bool) {
	pieces := g.pieces()
	knot := make([]piece, 0, many)
	var tie func(first int) bool
	tie = func(first int) bool {
		if len(knot) == many {
			return true
		}
		if many == 6 && len(knot) == 3 {
			first = 0
		}
		for at := first; at < len(pieces); at++ {
			if !pieces[at].fits(many, knot) {
				continue
			}
			knot = append(knot, pieces[at])
			if tie(at + 1) {
				return true
			}
			knot = knot[:len(knot)-1]
		}
		return false
	}
	if !tie(0) {
		return nil, false
	}
	out := make([]int, many)
	for i, p := range knot {
		out[i] = p.set
	}
	return out, true
}
