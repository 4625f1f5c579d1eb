// Package net counts the colourings, flows and directions of a net of sewers by polynomials.
package net

import (
	"tosher/api"
)

const (
	maxAt      = 10
	maxColours = 10
	maxModulus = 10
)

// Check says whether edges are those of a net with n nodes.
func Check(n int, edges [][2]int) api.Errno {
	if n < 1 || n > maxNodes {
		return api.ErrArg
	}
	if len(edges) > maxEdges {
		return api.ErrNet
	}
	for e, ends := range edges {
		if ends[0] < 0 || ends[0] > ends[1] || ends[1] >= n {
			return api.ErrNet
		}
		if e > 0 && compareEdges(ends, edges[e-1]) < 0 {
			return api.ErrNet
		}
	}
	return api.OK
}

// withSet returns the net if it is one and has the set of edges (or the directions).
func withSet(n int, edges [][2]int, set int) (graph, api.Errno) {
	g := graph{n, edges}
	if e := Check(n, edges); e != api.OK {
		return graph{}, e
	}
	if !g.isSet(set) {
		return graph{}, api.ErrArg
	}
	return g, api.OK
}

// withEdge returns the net if it is one and has the edge.
func withEdge(n int, edges [][2]int, edge int) (graph, api.Errno) {
	if e := Check(n, edges); e != api.OK {
		return graph{}, e
	}
	if edge < 0 || edge >= len(edges) {
		return graph{}, api.ErrArg
	}
	return graph{n, edges}, api.OK
}

// Rank returns the number of nodes less that of the parts that a set of edges leaves.
func Rank(n int, edges [][2]int, set int) (int, api.Errno) {
	g, e := withSet(n, edges, set)
	if e != api.OK {
		return 0, e
	}
	return g.rank(set), api.OK
}

// Colours returns the colour polynomial.
func Colours(n int, edges [][2]int) ([]int64, api.Errno) {
	if e := Check(n, edges); e != api.OK {
		return nil, e
	}
	g := graph{n, edges}
	power := func(set int) int { return n - g.rank(set) }
	isOdd := func(set int) bool { return size(set)%2 == 1 }
	return g.signed(power, isOdd), api.OK
}

// Flows returns the flow polynomial.
func Flows(n int, edges [][2]int) ([]int64, api.Errno) {
	if e := Check(n, edges); e != api.OK {
		return nil, e
	}
	g := graph{n, edges}
	power := func(set int) int { return size(set) - g.rank(set) }
	isOdd := func(set int) bool { return (len(edges)-size(set))%2 == 1 }
	return g.signed(power, isOdd), api.OK
}

// Great returns the great polynomial.
func Great(n int, edges [][2]int) ([][]int64, api.Errno) {
	if e := Check(n, edges); e != api.OK {
		return nil, e
	}
	terms := known{}.terms(graph{n, edges})
	return table(terms), api.OK
}

// Value returns the value of the great polynomial.
func Value(n int, edges [][2]int, x, y int64) (int64, api.Errno) {
	great, e := Great(n, edges)
	if e != api.OK {
		return 0, e
	}
	if x < -maxAt || x > maxAt || y < -maxAt || y > maxAt {
		return 0, api.ErrArg
	}
	byX := make([]int64, len(great))
	for i, byY := range great {
		byX[i] = value(byY, y)
	}
	return value(byX, x), api.OK
}

// Colour returns proper colours, if there are any.
func Colour(n int, edges [][2]int, q int) ([]int, bool, api.Errno) {
	if e := Check(n, edges); e != api.OK {
		return nil, false, e
	}
	if q < 0 || q > maxColours {
		return nil, false, api.ErrArg
	}
	colours, ok := graph{n, edges}.colouring(q)
	return colours, ok, api.OK
}

// checkFlow says whether there may be flows modulo m in a net.
func checkFlow(n int, edges [][2]int, m int) api.Errno {
	if e := Check(n, edges); e != api.OK {
		return e
	}
	if m < 1 || m > maxModulus {
		return api.ErrArg
	}
	return api.OK
}

// Flow returns a flow modulo m, if there is one.
func Flow(n int, edges [][2]int, m int) ([]int, bool, api.Errno) {
	if e := checkFlow(n, edges, m); e != api.OK {
		return nil, false, e
	}
	flow, ok := graph{n, edges}.flow(m)
	return flow, ok, api.OK
}

// IsFlow says whether flow is one modulo m.
func IsFlow(n int, edges [][2]int, m int, flow []int) (bool, api.Errno) {
	if e := checkFlow(n, edges, m); e != api.OK {
		return false, e
	}
	return graph{n, edges}.isFlow(m, flow), api.OK
}

// Acyclic says whether no edges make a ring in their directions.
func Acyclic(n int, edges [][2]int, directions int) (bool, api.Errno) {
	g, e := withSet(n, edges, directions)
	if e != api.OK {
		return false, e
	}
	return g.isAcyclic(directions), api.OK
}

// Round says whether each edge is in a ring in its direction.
func Round(n int, edges [][2]int, directions int) (bool, api.Errno) {
	g, e := withSet(n, edges, directions)
	if e != api.OK {
		return false, e
	}
	return g.isRound(directions), api.OK
}

// CountAcyclic returns how many directions are acyclic.
func CountAcyclic(n int, edges [][2]int) (int, api.Errno) {
	if e := Check(n, edges); e != api.OK {
		return 0, e
	}
	g := graph{n, edges}
	return g.count(g.isAcyclic), api.OK
}

// CountRound returns how many directions are round.
func CountRound(n int, edges [][2]int) (int, api.Errno) {
	if e := Check(n, edges); e != api.OK {
		return 0, e
	}
	g := graph{n, edges}
	return g.count(g.isRound), api.OK
}

// CountSource returns how many directions are acyclic and have the node as the only one to which no edge goes.
func CountSource(n int, edges [][2]int, node int) (int, api.Errno) {
	if e := Check(n, edges); e != api.OK {
		return 0, e
	}
	if node < 0 || node >= n {
		return 0, api.ErrArg
	}
	g := graph{n, edges}
	others := (1<<n - 1) &^ (1 << node)
	hasSource := func(directions int) bool {
		return g.entered(directions) == others && g.isAcyclic(directions)
	}
	return g.count(hasSource), api.OK
}

// Trees returns all trees, rising.
func Trees(n int, edges [][2]int) ([]int, api.Errno) {
	if e := Check(n, edges); e != api.OK {
		return nil, e
	}
	g := graph{n, edges}
	var out []int
	for set := range sets(len(edges)) {
		if g.isTree(set) {
			out = append(out, set)
		}
	}
	return out, api.OK
}

// Active returns how many edges are active in a tree, and outside.
func Active(n int, edges [][2]int, tree int) (in, outside int, e api.Errno) {
	g, e := withSet(n, edges, tree)
	if e != api.OK {
		return 0, 0, e
	}
	if !g.isTree(tree) {
		return 0, 0, api.ErrArg
	}
	for edge := range edges {
		switch {
		case !g.isActive(tree, edge):
		case has(tree, edge):
			in++
		default:
			outside++
		}
	}
	return in, outside, api.OK
}

// Without returns the net without an edge.
func Without(n int, edges [][2]int, edge int) (int, [][2]int, api.Errno) {
	g, e := withEdge(n, edges, edge)
	if e != api.OK {
		return 0, nil, e
	}
	out := g.without(edge)
	return out.n, out.edges, api.OK
}

// Joined returns the net in which the ends of an edge have become one node.
func Joined(n int, edges [][2]int, edge int) (int, [][2]int, api.Errno) {
	g, e := withEdge(n, edges, edge)
	if e != api.OK {
		return 0, nil, e
	}
	out := g.joined(edge)
	return out.n, out.edges, api.OK
}
