package plane

import (
	"slices"
)

const (
	maxGraph   = 7
	maxEdges   = 12
	genusEdges = 8
)

// graph is a graph that has been checked.
type graph struct {
	n     int
	edges [][2]int
}

func (g graph) isConnected() bool {
	return spans(g.n, g.edges)
}

// order returns the edges of a connected graph so that each one begins at a node that is drawn already; those that close a ring come as soon as they can.
func (g graph) order() []int {
	var out []int
	drawn := 1
	for len(out) < len(g.edges) {
		best, most := -1, 0
		for e, ends := range g.edges {
			touched := size(drawn & union(1<<ends[0], 1<<ends[1]))
			if touched > most && !slices.Contains(out, e) {
				best, most = e, touched
			}
		}
		out = append(out, best)
		drawn = union(drawn, 1<<g.edges[best][0], 1<<g.edges[best][1])
	}
	return out
}

// corners returns the darts after which a new one can be put at a node; the new one itself, if there is none yet.
func (r round) corners(node, dart int) []int {
	var out []int
	for d := range 2 * r.pipes {
		if r.isDrawn(d) && r.node[d] == node {
			out = append(out, d)
		}
	}
	if len(out) == 0 {
		return []int{dart}
	}
	return out
}

// with returns the map with one dart more, after another one.
func (r round) with(dart, after, node int) round {
	r.node[dart] = node
	r.next[dart] = dart
	if after != dart {
		r.next[dart] = r.next[after]
		r.next[after] = dart
	}
	return r
}

// drawn returns a connected graph as a map of at most a genus, if it can be drawn so: no further edge makes a genus less.
func (g graph) drawn(genus int) (round, bool) {
	order := g.order()
	var draw func(r round, many, nodes int) (round, bool)
	draw = func(r round, many, nodes int) (round, bool) {
		if many == len(order) {
			return r, true
		}
		e := order[many]
		ends := g.edges[e]
		reached := union(nodes, 1<<ends[0], 1<<ends[1])
		var out round
		found := false
	tries:
		for _, a := range r.corners(ends[0], 2*e) {
			half := r.with(2*e, a, ends[0])
			for _, b := range r.corners(ends[1], 2*e+1) {
				whole := half.with(2*e+1, b, ends[1])
				if whole.genus(size(reached), many+1) > genus {
					continue
				}
				out, found = draw(whole, many+1, reached)
				if found {
					break tries
				}
			}
		}
		return out, found
	}
	return draw(blank(g.n, len(g.edges)), 0, 1)
}

// isDrawing says whether a map is plane and has the edges as its pipes.
func (g graph) isDrawing(r round) bool {
	if r.nodes != g.n || r.pipes != len(g.edges) || r.genus(r.nodes, r.pipes) != 0 {
		return false
	}
	for p, ends := range r.ends() {
		if ends != g.edges[p] {
			return false
		}
	}
	return true
}
