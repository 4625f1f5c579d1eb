package probe

import (
	"iter"
	"slices"
)

const (
	maxStates = 6
	maxInputs = 3
	outs      = 4
	maxWord   = 100
)

func (m Machine) states() int {
	return len(m.Next)
}

func (m Machine) inputs() int {
	return len(m.Next[0])
}

func joined(lists ...[]int) []int {
	var out []int
	for _, list := range lists {
		out = append(out, list...)
	}
	return out
}

// least returns the least of some numbers, of which there is at least one.
func least[T int | int64](first T, others ...T) T {
	for _, n := range others {
		first = min(first, n)
	}
	return first
}

// say returns what a word says in a state, and where it leads.
func (m Machine) say(state int, word []int) ([]int, int) {
	var out []int
	for _, input := range word {
		out = joined(out, []int{m.Out[state][input]})
		state = m.Next[state][input]
	}
	return out, state
}

// step is what a search has come to, and the word that leads there.
type step[V comparable] struct {
	at   V
	word []int
}

// levels yields what can be come to by words of no inputs, one input, and so on, each thing once.
func levels[V comparable](start V, inputs int, next func(at V, input int) (V, bool)) iter.Seq[[]step[V]] {
	return func(yield func([]step[V]) bool) {
		seen := map[V]bool{start: true}
		level := []step[V]{{at: start}}
		for len(level) > 0 && yield(level) {
			var further []step[V]
			for _, s := range level {
				for input := range inputs {
					to, ok := next(s.at, input)
					if ok && !seen[to] {
						seen[to] = true
						further = append(further, step[V]{to, joined(s.word, []int{input})})
					}
				}
			}
			level = further
		}
	}
}

// shortest returns a shortest word that leads to what is looked for.
func shortest[V comparable](start V, inputs int, next func(at V, input int) (V, bool), isIt func(V) bool) ([]int, bool) {
	for level := range levels(start, inputs, next) {
		for _, s := range level {
			if isIt(s.at) {
				return s.word, true
			}
		}
	}
	return nil, false
}

// pair is a state of each of two machines.
type pair struct{ s, t int }

// twins is a pair to which a word leads, and whether the last input said something different in the two.
type twins struct {
	pair
	differ bool
}

// apart returns a shortest word that says something different in the states of a pair.
func apart(a, b Machine, start pair) ([]int, bool) {
	next := func(at twins, input int) (twins, bool) {
		to := pair{a.Next[at.s][input], b.Next[at.t][input]}
		return twins{to, a.Out[at.s][input] != b.Out[at.t][input]}, true
	}
	isApart := func(at twins) bool { return at.differ }
	return shortest(twins{pair: start}, a.inputs(), next, isApart)
}

func (m Machine) areEqual(p pair) bool {
	_, differ := apart(m, m, p)
	return p == pair{p.s, p.s} || !differ
}

// alike returns for each state the least one that is equal.
func (m Machine) alike() []int {
	out := make([]int, m.states())
	for s := range out {
		var equal []int
		for t := range out {
			if m.areEqual(pair{s, t}) {
				equal = append(equal, t)
			}
		}
		out[s] = least(s, equal...)
	}
	return out
}

// form goes from class to class; a class is named by its least state.
func (m Machine) form() Machine {
	alike := m.alike()
	number := map[int]int{0: 0}
	classes := []int{0}
	var out Machine
	for at := 0; at < len(classes); at++ {
		class := classes[at]
		row := make([]int, m.inputs())
		for input := range row {
			to := alike[m.Next[class][input]]
			if _, ok := number[to]; !ok {
				number[to] = len(classes)
				classes = append(classes, to)
			}
			row[input] = number[to]
		}
		out.Next = append(out.Next, row)
		out.Out = append(out.Out, slices.Clone(m.Out[class]))
	}
	return out
}
