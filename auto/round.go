package auto

// span stands for the numbers step n + from, n from 0 on.
type span struct{ step, from int }

// ring is a sequence that goes round from some number on.
type ring struct {
	list     []int
	straight int
}

func joined(lists ...[]int) []int {
	var out []int
	for _, list := range lists {
		out = append(out, list...)
	}
	return out
}

// folded returns the least number at which the sequence says the same as at n, and whatever is as far on.
func (r ring) folded(n int) int {
	if n < r.straight {
		return n
	}
	return r.straight + (n-r.straight)%(len(r.list)-r.straight)
}

// machine reads a digit r as: of the numbers of a span, each base-th one, from the r-th one on. A step that is folded leads to other numbers, but to the same of the sequence.
func (r ring) machine(base int) Machine {
	out := func(s span) int { return r.list[s.from] }
	next := func(s span, digit int) span {
		return span{r.folded(s.step * base), r.folded(s.from + s.step*digit)}
	}
	return built(base, span{r.folded(1), 0}, out, next)
}
