package search

import (
	"iter"
)

const maxGates = 12

// part is the pieces of a pipe from one to another one.
type part struct{ from, to int }

func (p part) isPiece() bool {
	return p == part{p.from, p.from}
}

// gates yields those between the pieces of a part.
func (p part) gates() iter.Seq[int] {
	return func(yield func(int) bool) {
		for gate := p.from; gate < p.to; gate++ {
			if !yield(gate) {
				return
			}
		}
	}
}

func (p part) before(gate int) part {
	return part{p.from, gate}
}

func (p part) behind(gate int) part {
	return part{gate + 1, p.to}
}

func sum(numbers ...int) int {
	out := 0
	for _, n := range numbers {
		out += n
	}
	return out
}

// better returns the one of two that costs less, the first one if both cost the same.
func better[T any](a, b T, cost func(T) int) T {
	if cost(b) < cost(a) {
		return b
	}
	return a
}

// choice is what it costs to open a gate, or to look at a node, and all that comes after it.
type choice struct{ cost, at int }

func (c choice) price() int {
	return c.cost
}

// table holds the best choice for each part of a pipe.
type table [maxGates + 1][maxGates + 1]choice

// filled makes the best choice for each part; of several that are best it is the least gate. The shorter parts come first.
func filled(n int, cost func(p part, gate, before, behind int) int) table {
	var t table
	for length := 1; length <= n; length++ {
		for from := range n - length + 1 {
			p := part{from, from + length}
			best := choice{at: -1}
			for gate := range p.gates() {
				c := choice{cost(p, gate, t[p.from][gate].cost, t[gate+1][p.to].cost), gate}
				if best.at < 0 {
					best = c
				}
				best = better(best, c, choice.price)
			}
			t[p.from][p.to] = best
		}
	}
	return t
}

// plan reads the plan for a pipe off a table.
func (t table) plan(n int) []int {
	var out []int
	var read func(p part)
	read = func(p part) {
		if p.isPiece() {
			return
		}
		gate := t[p.from][p.to].at
		out = append(out, gate)
		read(p.before(gate))
		read(p.behind(gate))
	}
	read(part{0, n})
	return out
}

// worst fills a table with the least worst prices.
func worst(costs []int) table {
	return filled(len(costs), func(_ part, gate, before, behind int) int {
		return costs[gate] + max(before, behind)
	})
}

// weighed fills a table with the least weighed prices.
func weighed(costs, weights []int) table {
	return filled(len(costs), func(p part, gate, before, behind int) int {
		return costs[gate]*sum(weights[p.from:p.to+1]...) + before + behind
	})
}

// isPlan says whether a list is a plan for a pipe with n gates. A plan for a part has as many numbers as the part has gates.
func isPlan(n int, plan []int) bool {
	var read func(p part, list []int) bool
	read = func(p part, list []int) bool {
		if len(list) != p.to-p.from {
			return false
		}
		if p.isPiece() {
			return true
		}
		gate, rest := list[0], list[1:]
		if gate < p.from || gate >= p.to {
			return false
		}
		first := gate - p.from
		return read(p.before(gate), rest[:first]) && read(p.behind(gate), rest[first:])
	}
	return read(part{0, n}, plan)
}

// answer returns the gates that a plan opens until only a piece is left.
func answer(n int, plan []int, piece int) []int {
	var out []int
	p := part{0, n}
	for !p.isPiece() {
		gate := plan[0]
		out = append(out, gate)
		first := 1 + gate - p.from
		if piece <= gate {
			p, plan = p.before(gate), plan[1:first]
		} else {
			p, plan = p.behind(gate), plan[first:]
		}
	}
	return out
}

func prices(costs, plan []int) []int {
	out := make([]int, len(costs)+1)
	for piece := range out {
		var paid []int
		for _, gate := range answer(len(costs), plan, piece) {
			paid = append(paid, costs[gate])
		}
		out[piece] = sum(paid...)
	}
	return out
}

// countPlans adds up, for each gate that can be the first one, the plans for the parts before and behind it.
func countPlans(n int) int64 {
	many := []int64{1}
	for gates := 1; gates <= n; gates++ {
		all := int64(0)
		for first := range gates {
			all += many[first] * many[gates-1-first]
		}
		many = append(many, all)
	}
	return many[n]
}
