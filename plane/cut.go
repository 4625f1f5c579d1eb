package plane

// cut returns the set of the pipes between the nodes of a side and the others.
func (r round) cut(side int) int {
	out := 0
	for p, e := range r.ends() {
		if has(side, e[0]) != has(side, e[1]) {
			out |= 1 << p
		}
	}
	return out
}

// side returns the only nodes, without node 0, of which the set can be the cut: each pipe leads on to the same side, or to the other one.
func (r round) side(set int) int {
	side, known := 0, 1
	for range r.nodes {
		for p, e := range r.ends() {
			if !has(known, e[0]) {
				e[0], e[1] = e[1], e[0]
			}
			if has(known, e[0]) && !has(known, e[1]) {
				known |= 1 << e[1]
				if has(side, e[0]) != has(set, p) {
					side |= 1 << e[1]
				}
			}
		}
	}
	return side
}

func (r round) isEven(set int) bool {
	odd := 0
	for p, e := range r.ends() {
		if has(set, p) {
			odd ^= 1 << e[0]
			odd ^= 1 << e[1]
		}
	}
	return odd == 0
}

// leastCut tries all sides that have s, and not t.
func (r round) leastCut(widths []int, s, t int) (int, int) {
	best, least := 0, -1
	for side := range 1 << r.nodes {
		if !has(side, s) || has(side, t) {
			continue
		}
		cut, sum := r.cut(side), 0
		for p, width := range widths {
			if has(cut, p) {
				sum += width
			}
		}
		if least < 0 || sum < least {
			best, least = cut, sum
		}
	}
	return best, least
}
