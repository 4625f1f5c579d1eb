package tally

// atLeast makes a protocol that adds up, in one of those who meet, what both have found; who knows that it is enough tells all others.
func atLeast(many int) Protocol {
	p := Protocol{States: many + 1, Out: make([]int, many+1), Start: []int{1}}
	p.Out[many] = 1
	for a := range p.States {
		for b := a; b < p.States; b++ {
			switch both := a + b; {
			case both >= many:
				p.Rules = append(p.Rules, [4]int{a, b, many, many})
			case a > 0:
				p.Rules = append(p.Rules, [4]int{a, b, both, 0})
			}
		}
	}
	return p
}

// leaves makes a protocol in which all begin as speakers, each with what is left of a number; of two who meet one becomes a hearer. The hearers are in the states m and m + 1, and say 0 and 1, as a speaker tells them.
func leaves(m, r int) Protocol {
	p := Protocol{States: m + 2, Out: make([]int, m+2), Start: []int{1 % m}}
	p.Out[r], p.Out[m+1] = 1, 1
	for a := range m {
		for b := a; b < m; b++ {
			left := (a + b) % m
			p.Rules = append(p.Rules, [4]int{a, b, left, m + p.Out[left]})
		}
		wrong, right := m+1-p.Out[a], m+p.Out[a]
		p.Rules = append(p.Rules, [4]int{a, wrong, a, right})
	}
	return p
}
