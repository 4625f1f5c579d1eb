package probe

import (
	"math/bits"
	"slices"
)

func has(set, state int) bool {
	return set>>state&1 == 1
}

func size(set int) int {
	return bits.OnesCount(uint(set))
}

// split returns, for each output, the states to which an input leads from those of a set that say it, and whether no two of these lead to the same one.
func (m Machine) split(set, input int) ([outs]int, bool) {
	var to [outs]int
	isClear := true
	for state := range m.states() {
		if !has(set, state) {
			continue
		}
		out, next := m.Out[state][input], m.Next[state][input]
		if has(to[out], next) {
			isClear = false
		}
		to[out] |= 1 << next
	}
	return to, isClear
}

// view is the sets of states that are still possible after a word, one for each thing that it can have said; those of a single state are left out. They are falling, with 0 at the end.
type view [maxStates]int

func (m Machine) start() view {
	var v view
	if m.states() > 1 {
		v[0] = 1<<m.states() - 1
	}
	return v
}

// after returns the view after an input, and whether no two states that could be told by what they were have become one.
func (m Machine) after(v view, input int) (view, bool) {
	var sets []int
	isClear := true
	for _, set := range v {
		parts, ok := m.split(set, input)
		isClear = isClear && ok
		for _, part := range parts {
			if size(part) > 1 {
				sets = append(sets, part)
			}
		}
	}
	slices.Sort(sets)
	slices.Reverse(sets)
	var out view
	copy(out[:], sets)
	return out, isClear
}

func isDone(v view) bool {
	return v == view{}
}

// end looks for a word that shows the end: states that become one are no longer to be told apart.
func (m Machine) end() ([]int, bool) {
	next := func(v view, input int) (view, bool) {
		out, _ := m.after(v, input)
		return out, true
	}
	return shortest(m.start(), m.inputs(), next, isDone)
}

// beginning looks for a word that shows the beginning: what becomes one will never be told apart.
func (m Machine) beginning() ([]int, bool) {
	return shortest(m.start(), m.inputs(), m.after, isDone)
}

// suspect is the state to which a word leads from one, and those to which it leads from the others in which it says the same.
type suspect struct{ state, others int }

// shows looks for a word that shows a state.
func (m Machine) shows(s int) ([]int, bool) {
	next := func(at suspect, input int) (suspect, bool) {
		parts, _ := m.split(at.others, input)
		to := suspect{m.Next[at.state][input], parts[m.Out[at.state][input]]}
		return to, !has(to.others, to.state)
	}
	isKnown := func(at suspect) bool { return at.others == 0 }
	start := suspect{s, (1<<m.states() - 1) &^ (1 << s)}
	return shortest(start, m.inputs(), next, isKnown)
}

// speech is a machine to which a word is said.
type speech struct {
	m    Machine
	word []int
}

func (s speech) says(state int) []int {
	out, _ := s.m.say(state, s.word)
	return out
}

func (s speech) leads(state int) int {
	_, to := s.m.say(state, s.word)
	return to
}

// same returns the states, other than one, in which the same is said.
func same(says func(state int) []int, state, states int) []int {
	var out []int
	said := says(state)
	for other := range states {
		if other != state && slices.Equal(says(other), said) {
			out = append(out, other)
		}
	}
	return out
}

func (s speech) tellsEnd() bool {
	for state := range s.m.states() {
		for _, other := range same(s.says, state, s.m.states()) {
			if s.leads(other) != s.leads(state) {
				return false
			}
		}
	}
	return true
}

func (s speech) tellsState(state int) bool {
	return len(same(s.says, state, s.m.states())) == 0
}

func (s speech) tellsBeginning() bool {
	for state := range s.m.states() {
		if !s.tellsState(state) {
			return false
		}
	}
	return true
}
