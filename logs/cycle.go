package logs

import (
	"cmp"
	"slices"
)

// cycle is the powers of a unit of the power of a prime number. All units of a modulus are products of one of each of its cycles.
type cycle struct{ modulus, unit, order int }

// cycles has two for a power of 2 from 8 on, one of -1 and one of 5.
func cycles(n int) []cycle {
	var out []cycle
	for f := range factors(n) {
		m := f.value()
		if m%8 == 0 {
			out = append(out, cycle{m, m - 1, 2}, cycle{m, 5, m / 4})
		} else {
			out = append(out, cycle{m, leastGenerator(m), units(m)})
		}
	}
	return out
}

// isSign says whether a cycle is that of -1 beside one of 5.
func (c cycle) isSign() bool {
	return c.modulus%8 == 0 && c.unit == c.modulus-1
}

// part returns the factor of a unit that is in the cycle.
func (c cycle) part(h int) int {
	h %= c.modulus
	switch {
	case c.isSign() && h%4 == 1:
		return 1
	case c.isSign():
		return c.modulus - 1
	case c.modulus%8 == 0 && h%4 == 3:
		return c.modulus - h
	}
	return h
}

// hasRoot says whether the factor of h in the cycle has a root for k.
func (c cycle) hasRoot(h, k int) bool {
	return base{c.modulus, c.part(h)}.power(c.order/divisor(c.order, k)) == 1
}

// lifted returns the number that leaves the same as a unit by the modulus of the cycle, and 1 by the rest of n.
func (c cycle) lifted(unit, n int) int {
	rest := n / c.modulus
	times := (unit - 1) * (base{c.modulus, rest}).inverse() % c.modulus
	return (1 + rest*times) % n
}

// strand is a unit of n whose order is the power of a prime number.
type strand struct{ prime, order, unit int }

// strands returns some of whose powers each unit is a product in just one way; of each prime number the greatest order comes first.
func strands(n int) []strand {
	var out []strand
	for _, c := range cycles(n) {
		for f := range factors(c.order) {
			order := f.value()
			unit := base{c.modulus, c.unit}.power(c.order / order)
			out = append(out, strand{f.prime, order, c.lifted(unit, n)})
		}
	}
	slices.SortFunc(out, func(a, b strand) int {
		return cmp.Or(cmp.Compare(a.prime, b.prime), cmp.Compare(b.order, a.order), cmp.Compare(a.unit, b.unit))
	})
	return out
}

// ropes twists the strands: the first of each prime number make the last rope, the next ones that before it, and so on.
func ropes(n int) (orders, basis []int) {
	prime, at := 0, 0
	for _, s := range strands(n) {
		if s.prime != prime {
			prime, at = s.prime, 0
		}
		if at == len(orders) {
			orders, basis = append(orders, 1), append(basis, 1)
		}
		orders[at] *= s.order
		basis[at] = basis[at] * s.unit % n
		at++
	}
	slices.Reverse(orders)
	slices.Reverse(basis)
	return orders, basis
}

// rootsOfOne returns how many units have the power 1 for k.
func rootsOfOne(n, k int) int {
	out := 1
	for _, c := range cycles(n) {
		out *= divisor(c.order, k)
	}
	return out
}

// roots returns how many roots h has for k: none, or as many as 1 has.
func roots(n, h, k int) int {
	for _, c := range cycles(n) {
		if !c.hasRoot(h, k) {
			return 0
		}
	}
	return rootsOfOne(n, k)
}

// count returns how many units have an order: for each power of a prime number in it those whose power for it is 1, but not that for the power before.
func count(n, order int) int {
	out := 1
	for f := range factors(order) {
		less := factor{f.prime, f.times - 1}
		out *= rootsOfOne(n, f.value()) - rootsOfOne(n, less.value())
	}
	return out
}
