package logs

import (
	"fmt"
	"math"
	"math/rand"
	"reflect"
	"slices"
	"testing"

	"tosher/api"
)

// most is the greatest modulus that the tests go through one by one.
const most = 260

// unitsOf returns the units by their definition.
func unitsOf(n int) []int {
	var out []int
	for a := range n {
		common := false
		for d := 2; d <= n; d++ {
			common = common || a%d == 0 && n%d == 0
		}
		if !common {
			out = append(out, a)
		}
	}
	return out
}

// orderOf multiplies until it comes to 1.
func orderOf(n, a int) int {
	k, at := 1, a%n
	for at != 1%n {
		at = at * a % n
		k++
	}
	return k
}

func powerOf(n, a, k int) int {
	out := 1 % n
	for range k {
		out = out * a % n
	}
	return out
}

// great are moduli up to the limit.
func great() []int {
	out := []int{1000000, 999983, 524288, 999999, 720720, 510510, 531441, 994009, 65536, 2 * 531441, 390625, 561 * 1729, 999958}
	chance := rand.New(rand.NewSource(17))
	for range 60 {
		out = append(out, 1+chance.Intn(1000000))
	}
	return slices.DeleteFunc(out, func(n int) bool { return n > 1000000 })
}

func none(t *testing.T, name string, want, e api.Errno, values ...any) {
	t.Helper()
	if e != want {
		t.Errorf("%s: the error %d, want %d", name, e, want)
	}
	for _, v := range values {
		if !reflect.ValueOf(v).IsZero() {
			t.Errorf("%s: %v next to an error", name, v)
		}
	}
}

func TestErrors(t *testing.T) {
	unit := func(n, a, k int, want api.Errno) {
		t.Helper()
		none(t, "Check", want, Check(n, a))
		x, e := Order(n, a)
		none(t, "Order", want, e, x)
		x, ok, e := Log(n, a, 1)
		none(t, "Log g", want, e, x, ok)
		if want == api.ErrUnit {
			x, ok, e = Log(n, 1, a)
			none(t, "Log h", want, e, x, ok)
		}
		x, e = Power(n, a, k)
		none(t, "Power", want, e, x)
		x, e = Inverse(n, a)
		none(t, "Inverse", want, e, x)
		x, e = Roots(n, a, k)
		none(t, "Roots", want, e, x)
		x, ok, e = Root(n, a, k)
		none(t, "Root", want, e, x, ok)
	}
	for _, n := range []int{0, -1, 1000001, math.MinInt, math.MaxInt} {
		unit(n, 0, 1, api.ErrArg)
		unit(n, -1, -1, api.ErrArg)
		x, e := Units(n)
		none(t, "Units", api.ErrArg, e, x)
		x, e = Exponent(n)
		none(t, "Exponent", api.ErrArg, e, x)
		x, e = Generator(n)
		none(t, "Generator", api.ErrArg, e, x)
		x, e = Generators(n)
		none(t, "Generators", api.ErrArg, e, x)
		l, e := Parts(n)
		none(t, "Parts", api.ErrArg, e, l)
		l, e = Basis(n)
		none(t, "Basis", api.ErrArg, e, l)
		x, e = Count(n, 0)
		none(t, "Count", api.ErrArg, e, x)
		f, e := Factor(n)
		none(t, "Factor", api.ErrArg, e, f)
		x, ok, e := Witness(n)
		none(t, "Witness", api.ErrArg, e, x, ok)
		x, e = Count(15, n)
		none(t, "Count", api.ErrArg, e, x)
		x, e = Sign(1, n)
		none(t, "Sign", api.ErrArg, e, x)
	}
	for _, a := range []int{-1, 0, 3, 5, 12, 15, 16, math.MinInt, math.MaxInt} {
		unit(15, a, -1, api.ErrUnit)
		unit(15, a, 1, api.ErrUnit)
	}
	unit(1, 1, 1, api.ErrUnit)
	for _, k := range []int{-1, 1000000001, math.MinInt, math.MaxInt} {
		x, e := Power(15, 2, k)
		none(t, "Power", api.ErrArg, e, x)
	}
	for _, k := range []int{0, -1, 101, math.MinInt, math.MaxInt} {
		x, e := Roots(15, 2, k)
		none(t, "Roots", api.ErrArg, e, x)
		x, ok, e := Root(15, 2, k)
		none(t, "Root", api.ErrArg, e, x, ok)
	}
	for _, x := range [][2]int{{1, 2}, {1, 0}, {1, -3}, {1000000001, 3}, {-1000000001, 3}, {1, 1000000}, {math.MinInt, 1}, {math.MaxInt, 1}} {
		s, e := Sign(x[0], x[1])
		none(t, "Sign", api.ErrArg, e, s)
	}
	for _, n := range []int{1, 2, 4, 1000000} {
		a, ok, e := Witness(n)
		none(t, "Witness", api.ErrNone, e, a, ok)
	}
	for _, n := range []int{8, 12, 15, 24} {
		g, e := Generator(n)
		none(t, "Generator", api.ErrNone, e, g)
	}
}

func TestUnits(t *testing.T) {
	for n := 1; n <= most; n++ {
		all := unitsOf(n)
		if u, e := Units(n); u != len(all) || e != api.OK {
			t.Errorf("Units of %d: %d", n, u)
		}
		for a := -1; a <= n; a++ {
			want := api.ErrUnit
			if slices.Contains(all, a) {
				want = api.OK
			}
			if e := Check(n, a); e != want {
				t.Errorf("Check of %d, %d: %d", n, a, e)
			}
		}
		for _, a := range all {
			b, e := Inverse(n, a)
			if a*b%n != 1%n || Check(n, b) != api.OK || e != api.OK {
				t.Errorf("Inverse of %d, %d: %d", n, a, b)
			}
		}
	}
	if b, e := Inverse(1, 0); b != 0 || e != api.OK {
		t.Errorf("Inverse modulo 1: %d", b)
	}
	if u, _ := Units(15); u != 8 {
		t.Errorf("Units of 15: %d", u)
	}
}

func TestOrders(t *testing.T) {
	for n := 1; n <= most; n++ {
		all := unitsOf(n)
		many := map[int]int{}
		least := -1
		greatest := 0
		for _, a := range all {
			order := orderOf(n, a)
			if o, e := Order(n, a); o != order || e != api.OK {
				t.Errorf("Order of %d, %d: %d", n, a, o)
			}
			many[order]++
			if order == len(all) && least < 0 {
				least = a
			}
			greatest = max(greatest, order)
		}
		if x, e := Exponent(n); x != greatest || e != api.OK {
			t.Errorf("Exponent of %d: %d", n, x)
		}
		g, e := Generator(n)
		if least < 0 {
			none(t, "Generator", api.ErrNone, e, g)
		} else if g != least || e != api.OK {
			t.Errorf("Generator of %d: %d", n, g)
		}
		want := 0
		if least >= 0 {
			want = many[len(all)]
		}
		if g, e := Generators(n); g != want || e != api.OK {
			t.Errorf("Generators of %d: %d", n, g)
		}
		for order := 1; order <= n+1; order++ {
			if c, e := Count(n, order); c != many[order] || e != api.OK {
				t.Errorf("Count of %d, %d: %d", n, order, c)
			}
		}
	}
	if c, e := Count(15, 1000000); c != 0 || e != api.OK {
		t.Errorf("Count of 15, 1000000: %d", c)
	}
	if g, _ := Generator(13); g != 2 {
		t.Errorf("Generator of 13: %d", g)
	}
	if g, e := Generator(1); g != 0 || e != api.OK {
		t.Errorf("Generator of 1: %d, %d", g, e)
	}
}

func TestLogAndPower(t *testing.T) {
	for n := 1; n <= 130; n++ {
		all := unitsOf(n)
		for _, g := range all {
			logs := map[int]int{}
			at := 1 % n
			for x := range orderOf(n, g) {
				logs[at] = x
				at = at * g % n
			}
			for _, h := range all {
				want, is := logs[h]
				if x, ok, e := Log(n, g, h); x != want || ok != is || e != api.OK {
					t.Errorf("Log of %d, %d, %d: %d, %t", n, g, h, x, ok)
				}
			}
			for _, k := range []int{0, 1, 2, 7, 60} {
				if p, e := Power(n, g, k); p != powerOf(n, g, k) || e != api.OK {
					t.Errorf("Power of %d, %d, %d: %d", n, g, k, p)
				}
			}
		}
	}
	chance := rand.New(rand.NewSource(18))
	for _, n := range great() {
		g := chance.Intn(n)
		if Check(n, g) != api.OK {
			continue
		}
		order, _ := Order(n, g)
		if p, _ := Power(n, g, order); p != 1%n {
			t.Errorf("Order of %d, %d: %d", n, g, order)
		}
		for f := range factors(order) {
			if p, _ := Power(n, g, order/f.prime); p == 1%n {
				t.Errorf("Order of %d, %d: %d", n, g, order)
			}
		}
		k := chance.Intn(1000000001)
		h, e := Power(n, g, k)
		x, ok, f := Log(n, g, h)
		if x != k%order || !ok || e+f != api.OK {
			t.Errorf("Log of %d, %d, %d: %d, %t, want %d", n, g, h, x, ok, k%order)
		}
		if b, _ := Inverse(n, g); b*g%n != 1%n {
			t.Errorf("Inverse of %d, %d: %d", n, g, b)
		}
	}
	if x, ok, e := Log(13, 2, 3); x != 4 || !ok || e != api.OK {
		t.Errorf("Log of 13, 2, 3: %d", x)
	}
	if x, ok, e := Log(1, 0, 0); x != 0 || !ok || e != api.OK {
		t.Errorf("Log modulo 1: %d, %t", x, ok)
	}
	if p, e := Power(1, 0, 0); p != 0 || e != api.OK {
		t.Errorf("Power modulo 1: %d", p)
	}
	if p, e := Power(999983, 999982, 1000000000); p != 1 || e != api.OK {
		t.Errorf("Power: %d", p)
	}
}

func TestRoots(t *testing.T) {
	for n := 1; n <= 140; n++ {
		all := unitsOf(n)
		for _, k := range []int{1, 2, 3, 4, 5, 6, 8, 12, 15, 16, 96, 100} {
			many, least := map[int]int{}, map[int]int{}
			for _, x := range all {
				h := powerOf(n, x, k)
				if many[h]++; many[h] == 1 {
					least[h] = x
				}
			}
			for _, h := range all {
				r, e := Roots(n, h, k)
				x, ok, f := Root(n, h, k)
				if r != many[h] || x != least[h] || ok != (many[h] > 0) || e+f != api.OK {
					t.Errorf("Roots of %d, %d, %d: %d, %d, %t", n, h, k, r, x, ok)
				}
			}
		}
	}
	chance := rand.New(rand.NewSource(19))
	for _, n := range great()[:20] {
		k, x := 1+chance.Intn(100), chance.Intn(n)
		if Check(n, x) != api.OK {
			continue
		}
		h, _ := Power(n, x, k)
		root, ok, e := Root(n, h, k)
		if p, _ := Power(n, root, k); p != h || root > x || !ok || e != api.OK {
			t.Errorf("Root of %d, %d, %d: %d", n, h, k, root)
		}
	}
	if r, _ := Roots(15, 1, 2); r != 4 {
		t.Errorf("Roots of 15, 1, 2: %d", r)
	}
	if x, ok, _ := Root(13, 3, 2); x != 4 || !ok {
		t.Errorf("Root of 13, 3, 2: %d", x)
	}
}

func TestParts(t *testing.T) {
	for n := 1; n <= most; n++ {
		parts, e := Parts(n)
		basis, f := Basis(n)
		if e+f != api.OK || len(parts) != len(basis) {
			t.Errorf("Parts of %d: %v, %v", n, parts, basis)
			continue
		}
		made := []int{1 % n}
		for i, d := range parts {
			if d < 2 || i > 0 && d%parts[i-1] != 0 {
				t.Errorf("Parts of %d: %v", n, parts)
			}
			if Check(n, basis[i]) != api.OK || orderOf(n, basis[i]) != d {
				t.Errorf("Basis of %d: %v", n, basis)
			}
			var more []int
			for k := range d {
				for _, a := range made {
					more = append(more, a*powerOf(n, basis[i], k)%n)
				}
			}
			made = more
		}
		slices.Sort(made)
		if !slices.Equal(made, unitsOf(n)) {
			t.Errorf("Basis of %d: %v makes %v", n, basis, made)
		}
	}
	for _, n := range great() {
		parts, _ := Parts(n)
		basis, _ := Basis(n)
		exponent, _ := Exponent(n)
		units, _ := Units(n)
		product, last := 1, 1
		for i, d := range parts {
			if o, e := Order(n, basis[i]); o != d || e != api.OK || d%last != 0 || d < 2 {
				t.Errorf("Basis of %d: %v, %v", n, parts, basis)
			}
			product, last = product*d, d
		}
		if exponent != last || product != units {
			t.Errorf("P7.8 of %d: %v, %d, %d", n, parts, exponent, units)
		}
	}
	for n, want := range map[int]string{1: "[]", 2: "[]", 3: "[2]", 8: "[2 2]", 15: "[2 4]", 16: "[2 4]", 24: "[2 2 2]", 13: "[12]", 1000000: "[2 4 50000]"} {
		parts, _ := Parts(n)
		if fmt.Sprint(parts) != want {
			t.Errorf("Parts of %d: %v", n, parts)
		}
	}
}

// squareSign looks for a square.
func squareSign(a, p int) int {
	left := (a%p + p) % p
	if left == 0 {
		return 0
	}
	for x := range p {
		if x*x%p == left {
			return 1
		}
	}
	return -1
}

func TestSign(t *testing.T) {
	for m := 1; m <= 151; m += 2 {
		for a := -80; a <= 160; a++ {
			want, left := 1, m
			for p := 2; left > 1; p++ {
				for left%p == 0 {
					left /= p
					want *= squareSign(a, p)
				}
			}
			if s, e := Sign(a, m); s != want || e != api.OK {
				t.Errorf("Sign of %d, %d: %d", a, m, s)
			}
		}
	}
	for _, x := range [][3]int{{2, 15, 1}, {0, 1, 1}, {5, 1, 1}, {0, 3, 0}, {1000000000, 3, 1}, {-1000000000, 3, -1}, {-1, 999983, -1}, {1000000000, 999999, 1}} {
		if s, e := Sign(x[0], x[1]); s != x[2] || e != api.OK {
			t.Errorf("Sign of %d, %d: %d", x[0], x[1], s)
		}
	}
	chance := rand.New(rand.NewSource(20))
	for range 500 {
		m, k := 3+2*chance.Intn(499998), 3+2*chance.Intn(499998)
		if divisor(m, k) > 1 {
			continue
		}
		a, _ := Sign(m, k)
		b, _ := Sign(k, m)
		want := 1
		if m%4 == 3 && k%4 == 3 {
			want = -1
		}
		if a*b != want {
			t.Errorf("P7.9 of %d, %d: %d, %d", m, k, a, b)
		}
	}
}

func TestFactorAndWitness(t *testing.T) {
	check := func(n int, slow bool) {
		f, e := Factor(n)
		product, last := 1, 1
		for _, x := range f {
			for range x[1] {
				product *= x[0]
			}
			for d := 2; d*d <= x[0]; d++ {
				if x[0]%d == 0 {
					t.Errorf("Factor of %d: %v", n, f)
				}
			}
			if x[0] <= last || x[1] < 1 {
				t.Errorf("Factor of %d: %v", n, f)
			}
			last = x[0]
		}
		if product != n || e != api.OK {
			t.Errorf("Factor of %d: %v", n, f)
		}
		units := n
		for _, x := range f {
			units = units / x[0] * (x[0] - 1)
		}
		if u, _ := Units(n); u != units {
			t.Errorf("P7.7 of %d: %d", n, u)
		}
		if n < 3 || n%2 == 0 {
			return
		}
		a, ok, e := Witness(n)
		isPrime := len(f) == 1 && f[0][1] == 1
		if ok == isPrime || !ok && a != 0 || e != api.OK {
			t.Errorf("P7.9 of %d: %d, %t", n, a, ok)
		}
		if ok && (a < 2 || a >= n) {
			t.Errorf("Witness of %d: %d", n, a)
		}
		last = a
		if slow && !ok {
			last = n
		}
		for b := 2; b <= last && b < n; b++ {
			s, _ := Sign(b, n)
			half := 1
			for range (n - 1) / 2 {
				half = half * b % n
			}
			shows := divisor(b, n) > 1 || (half-s)%n != 0 && half-s != n
			if shows != (b == a) {
				t.Errorf("Witness of %d: %d, not %d", n, a, b)
			}
		}
	}
	for n := 1; n <= most; n++ {
		check(n, true)
	}
	for _, n := range append(great(), 561, 1105, 1729, 2047, 3277, 4033, 8321, 15841) {
		check(n, false)
	}
	if f, e := Factor(1); len(f) != 0 || e != api.OK {
		t.Errorf("Factor of 1: %v", f)
	}
	if f, _ := Factor(720720); fmt.Sprint(f) != "[[2 4] [3 2] [5 1] [7 1] [11 1] [13 1]]" {
		t.Errorf("Factor of 720720: %v", f)
	}
	if a, ok, _ := Witness(15); a != 2 || !ok {
		t.Errorf("Witness of 15: %d", a)
	}
}

func TestGeneratorsExist(t *testing.T) {
	for n := 1; n <= 2000; n++ {
		f, _ := Factor(n)
		odd := n
		for odd%2 == 0 {
			odd /= 2
		}
		g, _ := Factor(odd)
		want := n == 1 || n == 2 || n == 4 || len(g) == 1 && n/odd <= 2
		many, _ := Generators(n)
		if _, e := Generator(n); (e == api.OK) != want || (many > 0) != want {
			t.Errorf("P7.7 of %d: %v, %d", n, f, many)
		}
	}
}

func TestMemory(t *testing.T) {
	a, _ := Parts(24)
	b, _ := Parts(24)
	a[0] = 9
	c, _ := Basis(24)
	d, _ := Basis(24)
	c[0] = 0
	if slices.Equal(a, b) || slices.Equal(c, d) {
		t.Error("results share memory")
	}
}
