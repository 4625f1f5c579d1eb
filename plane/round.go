package plane

import (
	"iter"
	"math/bits"
)

const (
	maxNodes = 13
	maxPipes = 12
	maxDarts = 2 * maxPipes
)

// round is a map, or a part of one, by its darts: the next one round the node, and the node; a dart that is not drawn yet has the next one -1.
type round struct {
	nodes      int
	pipes      int
	next, node [maxDarts]int
}

func blank(nodes, pipes int) round {
	out := round{nodes: nodes, pipes: pipes}
	for d := range out.next {
		out.next[d] = -1
	}
	return out
}

// read returns the map by its darts, if it is one.
func read(m Map) (round, bool) {
	darts := 0
	for _, turn := range m.Turns {
		darts += len(turn)
	}
	if len(m.Turns) < 1 || len(m.Turns) > maxNodes || darts > maxDarts || darts%2 == 1 {
		return round{}, false
	}
	r := blank(len(m.Turns), darts/2)
	for node, turn := range m.Turns {
		for at, d := range turn {
			if d < 0 || d >= darts || r.next[d] >= 0 {
				return round{}, false
			}
			r.next[d] = turn[(at+1)%len(turn)]
			r.node[d] = node
		}
	}
	return r, r.isConnected()
}

func (r round) isDrawn(dart int) bool {
	return r.next[dart] >= 0
}

func (r round) ends() [][2]int {
	out := make([][2]int, r.pipes)
	for p := range out {
		out[p] = [2]int{r.node[2*p], r.node[2*p+1]}
	}
	return out
}

func (r round) step(dart int) int {
	return r.next[dart^1]
}

// cycle follows the darts from a first one until it comes back.
func cycle(first int, next func(dart int) int) []int {
	out := []int{first}
	for d := next(first); d != first; d = next(d) {
		out = append(out, d)
	}
	return out
}

// faces yields the faces of what is drawn.
func (r round) faces() iter.Seq[[]int] {
	return func(yield func([]int) bool) {
		if r.pipes == 0 {
			yield(nil)
			return
		}
		var seen [maxDarts]bool
		for first := range 2 * r.pipes {
			if seen[first] || !r.isDrawn(first) {
				continue
			}
			face := cycle(first, r.step)
			for _, d := range face {
				seen[d] = true
			}
			if !yield(face) {
				return
			}
		}
	}
}

// genus is that of a map with so many nodes and pipes drawn.
func (r round) genus(nodes, pipes int) int {
	faces := 0
	for range r.faces() {
		faces++
	}
	return (2 - nodes + pipes - faces) / 2
}

// turns returns the lists, each beginning with its least dart.
func (r round) turns() [][]int {
	out := make([][]int, r.nodes)
	after := func(dart int) int { return r.next[dart] }
	for d := range 2 * r.pipes {
		if node := r.node[d]; len(out[node]) == 0 {
			out[node] = cycle(d, after)
		}
	}
	return out
}

// parts names the part of each node by one of its nodes.
type parts [maxNodes]int

func apart() *parts {
	out := &parts{}
	for i := range out {
		out[i] = i
	}
	return out
}

// join makes one part of those of a and b; false if they are one already.
func (p *parts) join(a, b int) bool {
	from, to := p[b], p[a]
	for i, name := range p {
		if name == from {
			p[i] = to
		}
	}
	return from != to
}

// forest returns the set of the pipes that join what those before have not.
func forest(ends [][2]int, join func(a, b int) bool) int {
	out := 0
	for p, e := range ends {
		if join(e[0], e[1]) {
			out |= 1 << p
		}
	}
	return out
}

// spans says whether the pipes between these ends connect so many nodes.
func spans(nodes int, ends [][2]int) bool {
	return size(forest(ends, apart().join)) == nodes-1
}

func (r round) isConnected() bool {
	return spans(r.nodes, r.ends())
}

func has(set, member int) bool {
	return set>>member&1 == 1
}

func size(set int) int {
	return bits.OnesCount(uint(set))
}

func union(sets ...int) int {
	out := 0
	for _, set := range sets {
		out |= set
	}
	return out
}
