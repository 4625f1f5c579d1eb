package auto

import (
	"iter"
)

// digits yields those of a number, the least one first; none of 0.
func digits(n int64, base int) iter.Seq[int] {
	return func(yield func(int) bool) {
		for ; n > 0; n /= int64(base) {
			if !yield(int(n % int64(base))) {
				return
			}
		}
	}
}

// at returns the number n of the sequence at a state.
func (m Machine) at(state int, n int64) int {
	for digit := range digits(n, m.Base) {
		state = m.Next[state][digit]
	}
	return m.Out[state]
}

// built makes a machine of states of any kind: those to which one comes from the first one. They are numbered in the order in which they are met.
func built[S comparable](base int, start S, out func(S) int, next func(S, int) S) Machine {
	m := Machine{Base: base}
	number := map[S]int{start: 0}
	states := []S{start}
	for at := 0; at < len(states); at++ {
		m.Out = append(m.Out, out(states[at]))
		row := make([]int, base)
		for digit := range row {
			to := next(states[at], digit)
			if _, ok := number[to]; !ok {
				number[to] = len(states)
				states = append(states, to)
			}
			row[digit] = number[to]
		}
		m.Next = append(m.Next, row)
	}
	return m
}

// pair is two states, or two classes of states.
type pair struct{ a, b int }

// refined parts states of one class that lead to different classes.
func (m Machine) refined(class []int) (finer []int, many int) {
	finer = append(finer, class...)
	for digit := range m.Base {
		known := map[pair]int{}
		for s := range finer {
			key := pair{finer[s], class[m.Next[s][digit]]}
			if _, ok := known[key]; !ok {
				known[key] = len(known)
			}
			finer[s] = known[key]
		}
		many = len(known)
	}
	return finer, many
}

// classes returns the same number for states just if their sequences are the same.
func (m Machine) classes() []int {
	class, many := m.refined(m.Out)
	for {
		finer, more := m.refined(class)
		if more == many {
			return class
		}
		class, many = finer, more
	}
}

// form takes a machine of any size.
func (m Machine) form() Machine {
	class := m.classes()
	stands := map[int]int{}
	for s, c := range class {
		if _, ok := stands[c]; !ok {
			stands[c] = s
		}
	}
	out := func(c int) int { return m.Out[stands[c]] }
	next := func(c, digit int) int { return class[m.Next[stands[c]][digit]] }
	return built(m.Base, class[0], out, next)
}

// met is a pair that was met on a search, the one before it, and the digit that led from there.
type met struct {
	states        pair
	before, digit int
}

// difference returns a number with as few digits as possible at which two sequences differ, and whether there is one.
func difference(a, b Machine) (int64, bool) {
	start := pair{0, 0}
	seen := map[pair]bool{start: true}
	list := []met{{states: start, before: -1}}
	found := -1
search:
	for at := 0; at < len(list); at++ {
		here := list[at].states
		if a.Out[here.a] != b.Out[here.b] {
			found = at
			break search
		}
		for digit := range a.Base {
			to := pair{a.Next[here.a][digit], b.Next[here.b][digit]}
			if !seen[to] {
				seen[to] = true
				list = append(list, met{to, at, digit})
			}
		}
	}
	if found < 0 {
		return 0, false
	}
	n := int64(0)
	for at := found; list[at].before >= 0; at = list[at].before {
		n = n*int64(a.Base) + int64(list[at].digit)
	}
	return n, true
}

// carry is a state and what is still to be added to what it reads.
type carry struct{ state, more int }

// every returns a machine, of any size, with the numbers step n + from of the sequence.
func (m Machine) every(step, from int) Machine {
	out := func(c carry) int { return m.at(c.state, int64(c.more)) }
	next := func(c carry, digit int) carry {
		sum := step*digit + c.more
		return carry{m.Next[c.state][sum%m.Base], sum / m.Base}
	}
	return built(m.Base, carry{0, from}, out, next)
}

func (m Machine) isRound(q, p int) bool {
	_, differ := difference(m.every(1, q), m.every(1, q+p))
	return !differ
}

// start returns the least number from which on the sequence is round, if it is from maxStart on.
func (m Machine) start(p int) int {
	q := maxStart
	for q > 0 && m.at(0, int64(q-1)) == m.at(0, int64(q-1+p)) {
		q--
	}
	return q
}

// ever returns the least number at which the sequence is out. What is known at each state of numbers with so many digits leads to what is known of those with one more.
func (m Machine) ever(out int) (int64, bool) {
	least := make([]int64, len(m.Out))
	for s, of := range m.Out {
		least[s] = -1
		if of == out {
			least[s] = 0
		}
	}
	for range m.Out {
		longer := make([]int64, len(m.Out))
		for s := range m.Out {
			longer[s] = m.longer(least, s)
		}
		least = longer
	}
	return max(least[0], 0), least[0] >= 0
}

// longer returns the least number at a state, of those of the states to which its last digits lead; -1 if there is none.
func (m Machine) longer(least []int64, state int) int64 {
	out := int64(-1)
	for digit, to := range m.Next[state] {
		if least[to] < 0 {
			continue
		}
		n := least[to]*int64(m.Base) + int64(digit)
		if out < 0 || n < out {
			out = n
		}
	}
	return out
}
