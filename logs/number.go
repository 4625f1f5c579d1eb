package logs

import (
	"iter"
)

const maxModulus = 1000000

// divisor returns the greatest common divisor of some numbers that are at least 0, 0 if all are 0.
func divisor[T int | int64](numbers ...T) T {
	var out T
	for _, n := range numbers {
		for n != 0 {
			out, n = n, out%n
		}
	}
	return out
}

// factor is a prime number and how often it occurs.
type factor struct{ prime, times int }

// factors yields those of a number, rising.
func factors(n int) iter.Seq[factor] {
	return func(yield func(factor) bool) {
		left := n
		for p := 2; p*p <= left; p++ {
			times := 0
			for left%p == 0 {
				left /= p
				times++
			}
			if times > 0 && !yield(factor{p, times}) {
				return
			}
		}
		if left > 1 {
			yield(factor{left, 1})
		}
	}
}

func (f factor) value() int {
	out := 1
	for range f.times {
		out *= f.prime
	}
	return out
}

func isPrime(n int) bool {
	for f := range factors(n) {
		return f == factor{n, 1}
	}
	return false
}

// units returns the number of all units.
func units(n int) int {
	for f := range factors(n) {
		n = n / f.prime * (f.prime - 1)
	}
	return n
}

func isUnit(n, a int) bool {
	return a >= 0 && a < n && divisor(a, n) == 1
}

// base is a number of which powers are taken modulo n.
type base struct{ n, a int }

func (b base) power(k int) int {
	out, a := 1%b.n, b.a%b.n
	for ; k > 0; k /= 2 {
		if k%2 == 1 {
			out = out * a % b.n
		}
		a = a * a % b.n
	}
	return out
}

func (b base) inverse() int {
	return b.power(units(b.n) - 1)
}

// order returns that of a unit: the number of all units, divided by prime numbers as long as the power stays 1.
func (b base) order() int {
	out := units(b.n)
	power := b.power
	divide := func(prime int) {
		for out%prime == 0 && power(out/prime) == 1%b.n {
			out /= prime
		}
	}
	for f := range factors(out) {
		divide(f.prime)
	}
	return out
}

// leastGenerator takes it that there is one.
func leastGenerator(n int) int {
	all := units(n)
	a := 0
	for !isUnit(n, a) || (base{n, a}).order() != all {
		a++
	}
	return a
}

// log goes by small steps, which a map knows, and back by great ones. The least one is found first: small steps that come to the same are known by the first one.
func (b base) log(h int) (int, bool) {
	order := b.order()
	many := 1
	for many*many < order {
		many++
	}
	small := map[int]int{}
	at := 1 % b.n
	for j := range many {
		if _, ok := small[at]; !ok {
			small[at] = j
		}
		at = at * b.a % b.n
	}
	back := base{b.n, at}.inverse()
	out, found := 0, false
search:
	for i := range many {
		j, ok := small[h]
		if ok {
			out, found = i*many+j, true
			break search
		}
		h = h * back % b.n
	}
	return out, found
}

// legendre is the sign for a prime number.
func legendre(a, p int) int {
	left := (a%p + p) % p
	switch (base{p, left}).power((p - 1) / 2) {
	case 0:
		return 0
	case 1:
		return 1
	}
	return -1
}

// sign is that for an odd number.
func sign(a, m int) int {
	out := 1
	for f := range factors(m) {
		for range f.times {
			out *= legendre(a, f.prime)
		}
	}
	return out
}

// isWitness says whether a shows that an odd number is not prime.
func isWitness(n, a int) bool {
	return divisor(a, n) > 1 || (base{n, a}).power((n-1)/2) != (sign(a, n)+n)%n
}
