package probe

// maxDepth is the greatest number of levels of a plan that is looked at: one that leads back to itself has no end.
const (
	maxDepth  = 1 << 16
	maxHeight = 100
)

func isLeaf(p Plan, states int) bool {
	return p.Leaf && p.State >= 0 && p.State < states && p.Input == 0 && len(p.Parts) == 0
}

func isQuestion(p Plan, inputs int) bool {
	return !p.Leaf && p.State == 0 && p.Input >= 0 && p.Input < inputs && len(p.Parts) == outs
}

// choice is the input that a plan of the least height for a set of states begins with, and that height, -1 if there is no plan.
type choice struct{ height, input int }

// choices returns the best choice for each set of states: first for single ones, then for those that an input leads to sets with a choice, and so on.
func (m Machine) choices() []choice {
	best := make([]choice, 1<<m.states())
	for set := range best {
		if size(set) > 1 {
			best[set].height = -1
		}
	}
	for height := 1; ; height++ {
		further := false
		for set := range best {
			if best[set].height >= 0 {
				continue
			}
			if input, ok := m.choose(best, set, height); ok {
				best[set] = choice{height, input}
				further = true
			}
		}
		if !further {
			return best
		}
	}
}

// choose returns an input that leads from a set only to sets with plans of less than a height.
func (m Machine) choose(best []choice, set, height int) (int, bool) {
inputs:
	for input := range m.inputs() {
		parts, ok := m.split(set, input)
		if !ok {
			continue
		}
		for _, part := range parts {
			if h := best[part].height; h < 0 || h >= height {
				continue inputs
			}
		}
		return input, true
	}
	return 0, false
}

// origins says for each state what it was if the machine is in it now, more by 1; 0 if the machine can not be in it.
type origins [maxStates]int

func (o origins) set() int {
	out := 0
	for state, was := range o {
		if was > 0 {
			out |= 1 << state
		}
	}
	return out
}

// after returns the origins after each output to an input.
func (o origins) after(m Machine, input int) [outs]origins {
	var out [outs]origins
	for state, was := range o {
		if was > 0 {
			out[m.Out[state][input]][m.Next[state][input]] = was
		}
	}
	return out
}

// was returns what the only state was, 0 if there is none.
func (o origins) was() int {
	for _, was := range o {
		if was > 0 {
			return was - 1
		}
	}
	return 0
}

// ask makes a plan of the least height that shows the beginning for all states.
func (m Machine) ask() (Plan, bool) {
	best := m.choices()
	if best[len(best)-1].height < 0 {
		return Plan{}, false
	}
	var plan func(o origins) Plan
	plan = func(o origins) Plan {
		set := o.set()
		if size(set) < 2 {
			return Plan{Leaf: true, State: o.was()}
		}
		out := Plan{Input: best[set].input}
		for _, then := range o.after(m, out.Input) {
			part := plan(then)
			out.Parts = append(out.Parts, part)
		}
		return out
	}
	var all origins
	for state := range m.states() {
		all[state] = state + 1
	}
	return plan(all), true
}

// tells says whether a plan shows the beginning for some states, of which it is known in which state the machine is now if it was begun in them.
func (m Machine) tells(p Plan, now map[int]int, depth int) bool {
	switch {
	case len(now) == 0:
		return isLeaf(p, 1)
	case isLeaf(p, m.states()):
		_, ok := now[p.State]
		return ok && len(now) == 1
	case depth == maxDepth || !isQuestion(p, m.inputs()):
		return false
	}
	for output, part := range p.Parts {
		then := map[int]int{}
		for was := range m.states() {
			if state, ok := now[was]; ok && m.Out[state][p.Input] == output {
				then[was] = m.Next[state][p.Input]
			}
		}
		if !m.tells(part, then, depth+1) {
			return false
		}
	}
	return true
}

// measured holds the heights of plans by their first parts, as plans may share parts again and again.
type measured map[*Plan]int

// height returns that of a plan at some depth of another one; false if it is no plan, or the other one is higher than maxHeight.
func (k measured) height(p Plan, depth int) (int, bool) {
	if isLeaf(p, maxStates) {
		return 0, true
	}
	if depth == maxHeight || !isQuestion(p, maxInputs) {
		return 0, false
	}
	first := &p.Parts[0]
	if height, ok := k[first]; ok {
		return height, depth+height <= maxHeight
	}
	greatest := 0
	for _, part := range p.Parts {
		height, ok := k.height(part, depth+1)
		if !ok {
			return 0, false
		}
		greatest = max(greatest, height)
	}
	k[first] = greatest + 1
	return greatest + 1, true
}
