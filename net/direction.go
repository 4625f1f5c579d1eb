package net

// ends returns the nodes from which and to which an edge goes.
func (g graph) ends(edge, directions int) (from, to int) {
	ends := g.edges[edge]
	if has(directions, edge) {
		return ends[1], ends[0]
	}
	return ends[0], ends[1]
}

// reached returns, for each node, the set of the nodes to which one comes from it; it is in it, too.
func (g graph) reached(directions int) [maxNodes]int {
	var out [maxNodes]int
	for node := range out {
		out[node] = 1 << node
	}
	for range g.n {
		for e := range g.edges {
			from, to := g.ends(e, directions)
			out[from] |= out[to]
		}
	}
	return out
}

// inRings returns the set of the edges that are in a ring in their directions.
func (g graph) inRings(directions int) int {
	reached := g.reached(directions)
	out := 0
	for e := range g.edges {
		from, to := g.ends(e, directions)
		if has(reached[to], from) {
			out |= 1 << e
		}
	}
	return out
}

func (g graph) isAcyclic(directions int) bool {
	return g.inRings(directions) == 0
}

func (g graph) isRound(directions int) bool {
	return g.inRings(directions) == g.all()
}

// entered returns the set of the nodes to which an edge goes.
func (g graph) entered(directions int) int {
	out := 0
	for e := range g.edges {
		_, to := g.ends(e, directions)
		out |= 1 << to
	}
	return out
}

func (g graph) count(fits func(directions int) bool) int {
	out := 0
	for directions := range sets(len(g.edges)) {
		if fits(directions) {
			out++
		}
	}
	return out
}

func (g graph) isTree(set int) bool {
	rank := g.rank(g.all())
	return size(set) == rank && g.rank(set) == rank
}

// isActive says whether no edge before this one makes a tree with the others when the two are exchanged.
func (g graph) isActive(tree, edge int) bool {
	for other := range edge {
		if has(tree, other) != has(tree, edge) && g.isTree(tree^1<<edge^1<<other) {
			return false
		}
	}
	return true
}
