package net

import (
	"math/bits"
	"slices"
)

// exponents are those of x and y in a term.
type exponents struct{ x, y int }

type term struct {
	at    exponents
	times int64
}

// shape is a net in a form that can be a key.
type shape struct {
	n, many int
	edges   [maxEdges][2]int
}

// known holds the terms of the great polynomials of smaller nets.
type known map[shape][]term

func (g graph) shape() shape {
	out := shape{n: g.n, many: len(g.edges)}
	copy(out.edges[:], g.edges)
	return out
}

func (k known) terms(g graph) []term {
	name := g.shape()
	if found, ok := k[name]; ok {
		return found
	}
	found := k.reduced(g)
	k[name] = found
	return found
}

// reduced takes the first edge away and joins its ends: each edge that is neither a loop nor a bridge leads to two smaller nets.
func (k known) reduced(g graph) []term {
	if len(g.edges) == 0 {
		return []term{{times: 1}}
	}
	if g.isLoop(0) {
		return multiplied(k.terms(g.without(0)), exponents{y: 1})
	}
	joined := k.terms(g.joined(0))
	if g.isBridge(0) {
		return multiplied(joined, exponents{x: 1})
	}
	less := k.terms(g.without(0))
	return collected(slices.Concat(less, joined)...)
}

func multiplied(terms []term, by exponents) []term {
	out := make([]term, 0, len(terms))
	for _, t := range terms {
		out = append(out, term{exponents{t.at.x + by.x, t.at.y + by.y}, t.times})
	}
	return out
}

// collected adds up the terms that have the same exponents.
func collected(terms ...term) []term {
	var out []term
next:
	for _, t := range terms {
		for i := range out {
			if out[i].at == t.at {
				out[i].times += t.times
				continue next
			}
		}
		out = append(out, t)
	}
	return out
}

// reaching makes a list long enough to have something at an index.
func reaching[T any](list []T, at int) []T {
	for len(list) <= at {
		var nought T
		list = append(list, nought)
	}
	return list
}

// table needs no cut at the ends: no term of a great polynomial is less than 1.
func table(terms []term) [][]int64 {
	var out [][]int64
	for _, t := range terms {
		out = reaching(out, t.at.x)
		out[t.at.x] = reaching(out[t.at.x], t.at.y)
		out[t.at.x][t.at.y] += t.times
	}
	return out
}

// signed adds up, for all sets of edges, the powers with 1 or -1.
func (g graph) signed(power func(set int) int, isOdd func(set int) bool) []int64 {
	var out []int64
	for set := range sets(len(g.edges)) {
		at := power(set)
		out = reaching(out, at)
		if isOdd(set) {
			out[at]--
		} else {
			out[at]++
		}
	}
	return withoutNoughts(out)
}

func withoutNoughts(list []int64) []int64 {
	for len(list) > 0 && list[len(list)-1] == 0 {
		list = list[:len(list)-1]
	}
	return list
}

func value(polynomial []int64, x int64) int64 {
	out := int64(0)
	for _, factor := range slices.Backward(polynomial) {
		out = out*x + factor
	}
	return out
}

func size(set int) int {
	return bits.OnesCount(uint(set))
}
