package net

// colouring returns proper colours; each node is tried with all colours that its lesser neighbours leave.
func (g graph) colouring(q int) ([]int, bool) {
	colours := make([]int, g.n)
	var from func(node int) bool
	from = func(node int) bool {
		if node == g.n {
			return true
		}
	next:
		for c := range q {
			colours[node] = c
			for _, ends := range g.edges {
				if ends[1] == node && colours[ends[0]] == c {
					continue next
				}
			}
			if from(node + 1) {
				return true
			}
		}
		return false
	}
	if !from(0) {
		return nil, false
	}
	return colours, true
}

// balance is, for each node, what has flowed to it less what has flowed from it, modulo m.
type balance [maxNodes]int

func (b balance) after(ends [2]int, flows, m int) balance {
	b[ends[0]] = (b[ends[0]] + m - flows) % m
	b[ends[1]] = (b[ends[1]] + flows) % m
	return b
}

// evenBelow says whether nothing is left at the nodes below a node.
func (b balance) evenBelow(node int) bool {
	for i := range node {
		if b[i] != 0 {
			return false
		}
	}
	return true
}

// step is where a search for a flow stands: at an edge, with what the edges before it have left.
type step struct {
	edge int
	left balance
}

// flow returns a flow. Edges are in the order of their lesser nodes, so nodes below that of the next edge are done with.
func (g graph) flow(m int) ([]int, bool) {
	flow := make([]int, len(g.edges))
	hopeless := map[step]bool{}
	var from func(at step) bool
	from = func(at step) bool {
		if at.edge == len(g.edges) {
			return at.left.evenBelow(g.n)
		}
		ends := g.edges[at.edge]
		if hopeless[at] || !at.left.evenBelow(ends[0]) {
			return false
		}
		for amount := 1; amount < m; amount++ {
			flow[at.edge] = amount
			if from(step{at.edge + 1, at.left.after(ends, amount, m)}) {
				return true
			}
		}
		hopeless[at] = true
		return false
	}
	if !from(step{}) {
		return nil, false
	}
	return flow, true
}

func (g graph) isFlow(m int, flow []int) bool {
	if len(flow) != len(g.edges) {
		return false
	}
	var left balance
	for e, amount := range flow {
		if amount < 1 || amount >= m {
			return false
		}
		left = left.after(g.edges[e], amount, m)
	}
	return left.evenBelow(g.n)
}
