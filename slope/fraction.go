package slope

// fraction is in lowest terms, with a denominator greater than 0, so that equal ones are the same.
type fraction struct{ over, under int64 }

func whole(n int) fraction {
	return fraction{int64(n), 1}
}

func divisor(a, b int64) int64 {
	for b != 0 {
		a, b = b, a%b
	}
	return max(a, -a)
}

func lowest(over, under int64) fraction {
	by := divisor(over, under)
	if under < 0 {
		by = -by
	}
	return fraction{over / by, under / by}
}

// plus goes by the least common denominator, which keeps the numbers small.
func (f fraction) plus(g fraction) fraction {
	common := divisor(f.under, g.under)
	return lowest(f.over*(g.under/common)+g.over*(f.under/common), f.under/common*g.under)
}

func (f fraction) less(g fraction) fraction {
	return f.plus(fraction{-g.over, g.under})
}

// times divides crosswise first, which keeps the numbers small.
func (f fraction) times(g fraction) fraction {
	a, b := lowest(f.over, g.under), lowest(g.over, f.under)
	return fraction{a.over * b.over, a.under * b.under}
}

// by divides; g is not 0.
func (f fraction) by(g fraction) fraction {
	return f.times(lowest(g.under, g.over))
}

func sum(fractions ...fraction) fraction {
	out := whole(0)
	for _, f := range fractions {
		out = out.plus(f)
	}
	return out
}

func wholes(numbers []int) []fraction {
	out := make([]fraction, len(numbers))
	for i, n := range numbers {
		out[i] = whole(n)
	}
	return out
}

func pairs(fractions []fraction) [][2]int64 {
	out := make([][2]int64, len(fractions))
	for i, f := range fractions {
		out[i] = [2]int64{f.over, f.under}
	}
	return out
}

// product is the sum of the products of the numbers of two flows.
func product(a, b []fraction) fraction {
	out := whole(0)
	for i := range a {
		out = out.plus(a[i].times(b[i]))
	}
	return out
}
