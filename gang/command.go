package gang

import (
	"slices"

	"tosher/api"
	"tosher/auto"
	"tosher/lines"
	"tosher/logs"
	"tosher/plane"
	"tosher/search"
)

const (
	nodes    = 5
	maxEdges = 9
	maxFlow  = 100
	maxCrowd = 9
	states   = 3
	outs     = 4
)

func isWithin(low, high int, numbers ...int) bool {
	for _, n := range numbers {
		if n < low || n > high {
			return false
		}
	}
	return true
}

// with returns a new list with one thing more.
func with[T any](list []T, more T) []T {
	return slices.Concat(list, []T{more})
}

func (g *Gang) edge(numbers []int) api.Errno {
	a, b := numbers[0], numbers[1]
	if !isWithin(0, nodes-1, a, b) {
		return api.ErrArg
	}
	if len(g.edges) == maxEdges {
		return api.ErrFull
	}
	edges := with(g.edges, [2]int{min(a, b), max(a, b)})
	slices.SortFunc(edges, func(a, b [2]int) int { return slices.Compare(a[:], b[:]) })
	g.edges = edges
	return api.OK
}

func mapOf(darts []int) plane.Map {
	return plane.Map{Turns: [][]int{darts}}
}

func (g *Gang) turn(numbers []int) api.Errno {
	if e := plane.Check(mapOf(numbers)); e != api.OK {
		return e
	}
	g.darts = numbers
	return api.OK
}

func (g *Gang) flow(numbers []int) api.Errno {
	if !isWithin(-maxFlow, maxFlow, numbers...) {
		return api.ErrArg
	}
	g.flows = numbers
	return api.OK
}

func (g *Gang) wall(numbers []int) api.Errno {
	walls := with(g.walls, [3]int(numbers))
	if e := lines.Check(walls); e != api.OK {
		return e
	}
	g.walls = walls
	return api.OK
}

func (g *Gang) later(numbers []int) api.Errno {
	sequence, e := auto.Later(g.sequence, numbers[0])
	if e != api.OK {
		return e
	}
	g.sequence = sequence
	return api.OK
}

func (g *Gang) join(numbers []int) api.Errno {
	if numbers[0] < 0 || numbers[1] < 0 {
		return api.ErrArg
	}
	a, b := g.crowd[0]+numbers[0], g.crowd[1]+numbers[1]
	if a+b > maxCrowd {
		return api.ErrFull
	}
	g.crowd = [2]int{a, b}
	return api.OK
}

func (g *Gang) goHome([]int) api.Errno {
	g.crowd = [2]int{}
	return api.OK
}

func (g *Gang) unit(numbers []int) api.Errno {
	if e := logs.Check(numbers[0], numbers[1]); e != api.OK {
		return e
	}
	g.modulus, g.base = numbers[0], numbers[1]
	return api.OK
}

func (g *Gang) gate(numbers []int) api.Errno {
	costs := with(g.costs, numbers[0])
	if e := search.Check(costs); e != api.OK {
		return e
	}
	g.costs = costs
	return api.OK
}

func (g *Gang) wire(numbers []int) api.Errno {
	from, to, out := numbers[0], numbers[1], numbers[2]
	if !isWithin(0, states-1, from, to) || !isWithin(0, outs-1, out) {
		return api.ErrArg
	}
	g.next[from], g.out[from] = to, out
	return api.OK
}
