package tally

import (
	"iter"
	"slices"
)

const (
	maxStates = 5
	maxKinds  = 2
	maxRules  = 15
	maxCrowd  = 9
)

// crowd says how many are in each state; what lies beyond the states of a protocol is 0.
type crowd [maxStates]int

func sum(numbers ...int) int {
	out := 0
	for _, n := range numbers {
		out += n
	}
	return out
}

// isCount says whether a list tells of from 1 to 9, in so many numbers.
func isCount(list []int, many int) bool {
	isOut := func(n int) bool { return n < 0 || n > maxCrowd }
	if len(list) != many || slices.ContainsFunc(list, isOut) {
		return false
	}
	all := sum(list...)
	return all >= 1 && all <= maxCrowd
}

func crowdOf(list []int) crowd {
	var out crowd
	copy(out[:], list)
	return out
}

// allows says whether two of the crowd can meet by a rule.
func (c crowd) allows(rule [4]int) bool {
	a, b := rule[0], rule[1]
	if a == b {
		return c[a] > 1
	}
	return c[a] > 0 && c[b] > 0
}

func (c crowd) after(rule [4]int) crowd {
	c[rule[0]]--
	c[rule[1]]--
	c[rule[2]]++
	c[rule[3]]++
	return c
}

// possible returns the indices of the rules that can be done.
func possible(rules [][4]int, allows func(rule [4]int) bool) []int {
	var out []int
	for i, rule := range rules {
		if allows(rule) {
			out = append(out, i)
		}
	}
	return out
}

// meetings yields the rules by which two of the crowd can meet, and the crowds then.
func (p Protocol) meetings(c crowd) iter.Seq2[int, crowd] {
	return func(yield func(int, crowd) bool) {
		for _, i := range possible(p.Rules, c.allows) {
			if !yield(i, c.after(p.Rules[i])) {
				return
			}
		}
	}
}

// isAll says whether all states that occur have that Out.
func (p Protocol) isAll(c crowd, out int) bool {
	for state, of := range p.Out {
		if c[state] > 0 && of != out {
			return false
		}
	}
	return true
}

// reach is all crowds to which ways lead from the first one, each with those from which a single rule leads to it.
type reach struct {
	crowds []crowd
	before [][]int
}

func (p Protocol) reached(from crowd) reach {
	r := reach{}
	number := map[crowd]int{}
	note := func(c crowd) int {
		at, ok := number[c]
		if !ok {
			at = len(r.crowds)
			number[c] = at
			r.crowds = append(r.crowds, c)
			r.before = append(r.before, nil)
		}
		return at
	}
	note(from)
	for at := 0; at < len(r.crowds); at++ {
		for _, next := range p.meetings(r.crowds[at]) {
			to := note(next)
			r.before[to] = append(r.before[to], at)
		}
	}
	return r
}

// leading marks all crowds from which a way leads to one of some.
func (r reach) leading(to []int) []bool {
	marked := make([]bool, len(r.crowds))
	for _, at := range to {
		marked[at] = true
	}
	list := slices.Clone(to)
	for at := 0; at < len(list); at++ {
		for _, before := range r.before[list[at]] {
			if !marked[before] {
				marked[before] = true
				list = append(list, before)
			}
		}
	}
	return marked
}

// settled returns the crowds that are settled on out: those from which no way leads to one with something else.
func (p Protocol) settled(r reach, out int) []int {
	var other []int
	for at, c := range r.crowds {
		if !p.isAll(c, out) {
			other = append(other, at)
		}
	}
	var list []int
	for at, marked := range r.leading(other) {
		if !marked {
			list = append(list, at)
		}
	}
	return list
}

// settlesOn says whether the first crowd is settled on out.
func (p Protocol) settlesOn(r reach, out int) bool {
	return slices.Contains(p.settled(r, out), 0)
}

// decidesAs says whether the first crowd is decided as out.
func (p Protocol) decidesAs(r reach, out int) bool {
	return !slices.Contains(r.leading(p.settled(r, out)), false)
}

// either returns 0 or 1, whichever it is that something is true of.
func either(is func(r reach, out int) bool, r reach) (int, bool) {
	for out := range 2 {
		if is(r, out) {
			return out, true
		}
	}
	return 0, false
}

// step is a crowd on a search, the one before it, and the rule that led from there.
type step struct {
	at           crowd
	before, rule int
}

// way returns a way with as few rules as possible.
func (p Protocol) way(from, to crowd) ([]int, bool) {
	seen := map[crowd]bool{from: true}
	list := []step{{from, -1, -1}}
	found := -1
search:
	for at := 0; at < len(list); at++ {
		if list[at].at == to {
			found = at
			break search
		}
		for rule, next := range p.meetings(list[at].at) {
			if !seen[next] {
				seen[next] = true
				list = append(list, step{next, at, rule})
			}
		}
	}
	if found < 0 {
		return nil, false
	}
	var out []int
	for at := found; list[at].before >= 0; at = list[at].before {
		out = append(out, list[at].rule)
	}
	slices.Reverse(out)
	return out, true
}
