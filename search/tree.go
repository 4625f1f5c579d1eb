package search

import (
	"math/bits"
	"slices"
)

const (
	maxNodes = 10
	maxMark  = 10
)

// tree has, for each node, the set of its neighbours.
type tree struct {
	n    int
	near [maxNodes]int
}

// read returns a tree, if the edges are those of one.
func read(n int, edges [][2]int) (tree, bool) {
	t := tree{n: n}
	if len(edges) != n-1 {
		return tree{}, false
	}
	for e, ends := range edges {
		if ends[0] < 0 || ends[0] >= ends[1] || ends[1] >= n {
			return tree{}, false
		}
		if e > 0 && slices.Compare(edges[e-1][:], ends[:]) >= 0 {
			return tree{}, false
		}
		t.near[ends[0]] |= 1 << ends[1]
		t.near[ends[1]] |= 1 << ends[0]
	}
	return t, len(t.parts(t.all())) == 1
}

func (t tree) all() int {
	return 1<<t.n - 1
}

func has(set, node int) bool {
	return set>>node&1 == 1
}

func size(set int) int {
	return bits.OnesCount(uint(set))
}

// parts returns the sets of nodes into which a set falls.
func (t tree) parts(set int) []int {
	var out []int
	for set != 0 {
		reached := set & -set
		for range t.n {
			for node := range t.n {
				if has(reached, node) {
					reached |= t.near[node] & set
				}
			}
		}
		out = append(out, reached)
		set &^= reached
	}
	return out
}

// partsWithout returns the sets of nodes into which a set falls without a node.
func (t tree) partsWithout(set, node int) []int {
	return t.parts(set &^ (1 << node))
}

// known holds the best node to look at in each set of nodes that is connected.
type known map[int]choice

func (k known) best(t tree, set int) choice {
	if found, ok := k[set]; ok {
		return found
	}
	out := choice{at: -1}
	for node := range t.n {
		if !has(set, node) {
			continue
		}
		c := choice{at: node}
		for _, part := range t.partsWithout(set, node) {
			c.cost = max(c.cost, 1+k.best(t, part).cost)
		}
		if out.at < 0 {
			out = c
		}
		out = better(out, c, choice.price)
	}
	k[set] = out
	return out
}

// marks marks the best node of a set with the looks that the set needs, and then those of the parts without it.
func (t tree) marks() []int {
	out := make([]int, t.n)
	k := known{}
	var mark func(set int)
	mark = func(set int) {
		best := k.best(t, set)
		out[best.at] = best.cost
		for _, part := range t.partsWithout(set, best.at) {
			mark(part)
		}
	}
	mark(t.all())
	return out
}

// areMarks says whether none of the parts that the nodes up to a mark make has two nodes with this mark.
func (t tree) areMarks(marks []int) bool {
	if len(marks) != t.n {
		return false
	}
	right := true
tries:
	for _, mark := range marks {
		if mark < 0 || mark > maxMark {
			right = false
			break tries
		}
		same, upTo := 0, 0
		for node, other := range marks {
			if other == mark {
				same |= 1 << node
			}
			if other <= mark {
				upTo |= 1 << node
			}
		}
		for _, part := range t.parts(upTo) {
			if size(part&same) > 1 {
				right = false
				break tries
			}
		}
	}
	return right
}

// middle returns the node without which the greatest part is least, and the size of that part.
func (t tree) middle() choice {
	best := choice{t.n, 0}
	for node := range t.n {
		c := choice{0, node}
		for _, part := range t.partsWithout(t.all(), node) {
			c.cost = max(c.cost, size(part))
		}
		best = better(best, c, choice.price)
	}
	return best
}
