package net

import (
	"iter"
	"slices"
)

const (
	maxNodes = 6
	maxEdges = 9
)

// graph is a net that has been checked.
type graph struct {
	n     int
	edges [][2]int
}

// groups names the group of each node by one of its nodes.
type groups [maxNodes]int

func separate() groups {
	var out groups
	for i := range out {
		out[i] = i
	}
	return out
}

// join makes one group of those of a and b; false if they are one already.
func (g *groups) join(a, b int) bool {
	from, to := g[b], g[a]
	if from == to {
		return false
	}
	for i, name := range g {
		if name == from {
			g[i] = to
		}
	}
	return true
}

// sets yields all sets of so many things, rising.
func sets(many int) iter.Seq[int] {
	return func(yield func(int) bool) {
		for set := range 1 << many {
			if !yield(set) {
				return
			}
		}
	}
}

// members yields what is in a set, rising.
func members(set int) iter.Seq[int] {
	return func(yield func(int) bool) {
		for i := 0; set>>i > 0; i++ {
			if has(set, i) && !yield(i) {
				return
			}
		}
	}
}

func has(set, member int) bool {
	return set>>member&1 == 1
}

func (g graph) all() int {
	return 1<<len(g.edges) - 1
}

func (g graph) isSet(set int) bool {
	return set >= 0 && set <= g.all()
}

func (g graph) rank(set int) int {
	nodes := separate()
	rank := 0
	for e := range members(set) {
		if nodes.join(g.edges[e][0], g.edges[e][1]) {
			rank++
		}
	}
	return rank
}

func (g graph) isLoop(edge int) bool {
	return g.edges[edge][0] == g.edges[edge][1]
}

// isBridge says whether the rank is less without the edge.
func (g graph) isBridge(edge int) bool {
	return g.rank(g.all()&^(1<<edge)) < g.rank(g.all())
}

func (g graph) without(edge int) graph {
	return graph{g.n, slices.Concat(g.edges[:edge], g.edges[edge+1:])}
}

func (g graph) joined(edge int) graph {
	out := g.without(edge)
	if g.isLoop(edge) {
		return out
	}
	kept, gone := g.edges[edge][0], g.edges[edge][1]
	for e, ends := range out.edges {
		a, b := renamed(ends[0], kept, gone), renamed(ends[1], kept, gone)
		out.edges[e] = [2]int{min(a, b), max(a, b)}
	}
	slices.SortFunc(out.edges, compareEdges)
	out.n--
	return out
}

// renamed is the name of a node once the node that is gone has become another.
func renamed(node, kept, gone int) int {
	switch {
	case node == gone:
		return kept
	case node > gone:
		return node - 1
	}
	return node
}

func compareEdges(a, b [2]int) int {
	return slices.Compare(a[:], b[:])
}
