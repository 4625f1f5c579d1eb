package slope

import (
	"iter"
	"slices"
)

const (
	maxNodes  = 6
	maxEdges  = 10
	maxPlates = 6
)

// edge returns the index of the edge from a node to a greater one.
func (g Ground) edge(i, k int) (int, bool) {
	return slices.BinarySearchFunc(g.Edges, [2]int{i, k}, func(a, b [2]int) int { return slices.Compare(a[:], b[:]) })
}

// hem returns the edges of a plate: the two along which its turn goes, and the one against which it goes.
func (g Ground) hem(plate [3]int) (first, second, against int) {
	first, _ = g.edge(plate[0], plate[1])
	second, _ = g.edge(plate[1], plate[2])
	against, _ = g.edge(plate[0], plate[2])
	return first, second, against
}

func (g Ground) hasEdges() bool {
	for e, ends := range g.Edges {
		if ends[0] < 0 || ends[0] >= ends[1] || ends[1] >= g.N {
			return false
		}
		if e > 0 && slices.Compare(g.Edges[e-1][:], ends[:]) >= 0 {
			return false
		}
	}
	return len(g.Edges) <= maxEdges
}

// hasPlates takes it that the edges are right.
func (g Ground) hasPlates() bool {
	for p, plate := range g.Plates {
		if p > 0 && slices.Compare(g.Plates[p-1][:], plate[:]) >= 0 {
			return false
		}
		_, first := g.edge(plate[0], plate[1])
		_, second := g.edge(plate[1], plate[2])
		_, against := g.edge(plate[0], plate[2])
		if !first || !second || !against {
			return false
		}
	}
	return len(g.Plates) <= maxPlates
}

func (g Ground) gradient(heights []int) []int {
	out := make([]int, len(g.Edges))
	for e, ends := range g.Edges {
		out[e] = heights[ends[1]] - heights[ends[0]]
	}
	return out
}

func (g Ground) swirl(turns []int) []int {
	out := make([]int, len(g.Edges))
	for p, plate := range g.Plates {
		first, second, against := g.hem(plate)
		out[first] += turns[p]
		out[second] += turns[p]
		out[against] -= turns[p]
	}
	return out
}

func (g Ground) gains(flow []int) []int {
	out := make([]int, g.N)
	for e, ends := range g.Edges {
		out[ends[0]] -= flow[e]
		out[ends[1]] += flow[e]
	}
	return out
}

func (g Ground) turns(flow []int) []int {
	out := make([]int, len(g.Plates))
	for p, plate := range g.Plates {
		first, second, against := g.hem(plate)
		out[p] = flow[first] + flow[second] - flow[against]
	}
	return out
}

// ways yields the neighbours of a node, and what flows to each.
func (g Ground) ways(flow []int, node int) iter.Seq2[int, int] {
	return func(yield func(int, int) bool) {
		for e, ends := range g.Edges {
			if ends[0] == node && !yield(ends[1], flow[e]) {
				return
			}
			if ends[1] == node && !yield(ends[0], -flow[e]) {
				return
			}
		}
	}
}

// along returns what flows from a node to another one, if an edge joins them.
func (g Ground) along(flow []int, from, to int) (int, bool) {
	e, ok := g.edge(min(from, to), max(from, to))
	if !ok {
		return 0, false
	}
	if from > to {
		return -flow[e], true
	}
	return flow[e], true
}

// climb is what is known of the nodes once all have been reached: the height by the flow, the node before, and the least node of the piece.
type climb struct {
	heights, before, least map[int]int
}

func (g Ground) climb(flow []int) climb {
	c := climb{map[int]int{}, map[int]int{}, map[int]int{}}
	for start := range g.N {
		if _, ok := c.heights[start]; ok {
			continue
		}
		c.heights[start], c.before[start], c.least[start] = 0, -1, start
		queue := []int{start}
		for len(queue) > 0 {
			node := queue[0]
			queue = queue[1:]
			for next, amount := range g.ways(flow, node) {
				if _, ok := c.heights[next]; !ok {
					c.heights[next], c.before[next], c.least[next] = c.heights[node]+amount, node, start
					queue = append(queue, next)
				}
			}
		}
	}
	return c
}

// misfit returns the first edge along which the heights do not differ by the flow, or -1.
func (g Ground) misfit(c climb, flow []int) int {
	for e, ends := range g.Edges {
		if c.heights[ends[1]]-c.heights[ends[0]] != flow[e] {
			return e
		}
	}
	return -1
}

// ring returns the ring that an edge makes with the ways on which its ends were reached.
func (c climb) ring(ends [2]int) []int {
	back := func(node int) []int {
		var way []int
		for ; node >= 0; node = c.before[node] {
			way = append(way, node)
		}
		return way
	}
	up, down := back(ends[0]), back(ends[1])
	for len(up) > 1 && len(down) > 1 && up[len(up)-2] == down[len(down)-2] {
		up, down = up[:len(up)-1], down[:len(down)-1]
	}
	down = down[:len(down)-1]
	slices.Reverse(down)
	return append(up, down...)
}

// pieces returns the nodes of each piece.
func (g Ground) pieces() [][]int {
	least := g.climb(make([]int, len(g.Edges))).least
	members := make([][]int, g.N)
	for node := range g.N {
		members[least[node]] = append(members[least[node]], node)
	}
	isEmpty := func(piece []int) bool { return len(piece) == 0 }
	return slices.DeleteFunc(members, isEmpty)
}
