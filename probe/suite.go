package probe

import (
	"slices"
)

// partings returns words of which for any two states at least one says something different in them. Each one that is added parts states that those before do not.
func (m Machine) partings() [][]int {
	var out [][]int
	for s := range m.states() {
	others:
		for t := range s {
			for _, word := range out {
				says := speech{m, word}.says
				if !slices.Equal(says(s), says(t)) {
					continue others
				}
			}
			if word, ok := apart(m, m, pair{s, t}); ok {
				out = append(out, word)
			}
		}
	}
	return out
}

// accesses returns a shortest word to each state that can be reached.
func (m Machine) accesses() [][]int {
	var out [][]int
	next := func(state, input int) (int, bool) { return m.Next[state][input], true }
	for level := range levels(0, m.inputs(), next) {
		for _, s := range level {
			out = append(out, s.word)
		}
	}
	return out
}

// suite goes to each state of a form, and from there on by each input, and says all partings there: a machine with no more states that says the same has as many states, and the same steps between them.
func (m Machine) suite() [][]int {
	endings := m.partings()
	if len(endings) == 0 {
		endings = [][]int{nil}
	}
	var out [][]int
	add := func(word []int) {
		isKnown := func(other []int) bool { return slices.Equal(other, word) }
		if len(word) > 0 && !slices.ContainsFunc(out, isKnown) {
			out = append(out, word)
		}
	}
	for _, access := range m.accesses() {
		for _, ending := range endings {
			add(joined(access, ending))
			for input := range m.inputs() {
				add(joined(access, []int{input}, ending))
			}
		}
	}
	return out
}
