package tally

// divisor returns the greatest common divisor of two numbers, 0 if both are 0.
func divisor(a, b int) int {
	for b != 0 {
		a, b = b, a%b
	}
	return max(a, -a)
}

// combined returns a row multiplied by one number, less another row multiplied by another number, divided by what all numbers have in common.
func combined(r crowd, times int, other crowd, less int) crowd {
	common := 0
	for i := range r {
		r[i] = times*r[i] - less*other[i]
		common = divisor(common, r[i])
	}
	for i := range r {
		r[i] /= max(common, 1)
	}
	return r
}

// reduced changes rows until as many columns as possible are 0 in all rows but one, and returns these rows, each by its column. The rows are combined by a function.
func reduced[R any](rows []R, columns int, at func(R, int) int, combined func(r R, times int, other R, less int) R) map[int]R {
	pivots := map[int]int{}
	isUsed := make([]bool, len(rows))
columns:
	for column := range columns {
		for i := range rows {
			if isUsed[i] || at(rows[i], column) == 0 {
				continue
			}
			for k := range rows {
				if k != i && at(rows[k], column) != 0 {
					rows[k] = combined(rows[k], at(rows[i], column), rows[i], at(rows[k], column))
				}
			}
			isUsed[i] = true
			pivots[column] = i
			continue columns
		}
	}
	out := map[int]R{}
	for column := range columns {
		if i, ok := pivots[column]; ok {
			out[column] = rows[i]
		}
	}
	return out
}

// equations returns, for each column that the others determine, an equation that all weights that are kept fulfil.
func (p Protocol) equations() map[int]crowd {
	rows := make([]crowd, len(p.Rules))
	for i, rule := range p.Rules {
		rows[i] = crowd{}.after([4]int{rule[2], rule[3], rule[0], rule[1]})
	}
	at := func(r crowd, column int) int { return r[column] }
	return reduced(rows, p.States, at, combined)
}

// weights returns lists of weights of which all others that are kept are made: for each state that is free, those in which the other free ones are 0.
func (p Protocol) weights() []crowd {
	equations := p.equations()
	var out []crowd
	for free := range p.States {
		if _, ok := equations[free]; ok {
			continue
		}
		times := 1
		for column := range p.States {
			if row, ok := equations[column]; ok {
				times *= row[column] / divisor(times, row[column])
			}
		}
		var list crowd
		list[free] = times
		for column := range p.States {
			if row, ok := equations[column]; ok {
				list[column] = -times / row[column] * row[free]
			}
		}
		out = append(out, combined(list, 1, crowd{}, 0))
	}
	return out
}

func (c crowd) weight(weights crowd) int {
	out := 0
	for state, many := range c {
		out += many * weights[state]
	}
	return out
}

// isKept takes weights that have been checked.
func (p Protocol) isKept(weights []int, m int) bool {
	for _, rule := range p.Rules {
		more := weights[rule[2]] + weights[rule[3]] - weights[rule[0]] - weights[rule[1]]
		if m > 0 {
			more %= m
		}
		if more != 0 {
			return false
		}
	}
	return true
}
