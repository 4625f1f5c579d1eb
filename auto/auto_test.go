package auto

import (
	"fmt"
	"math"
	"math/rand"
	"reflect"
	"slices"
	"testing"

	"tosher/api"
)

var (
	morse = Machine{2, []int{0, 1}, [][]int{{0, 1}, {1, 0}}}
	seven = Machine{3, []int{7}, [][]int{{0, 0, 0}}}
	// Rudin and Shapiro: whether 11 occurs an odd number of times
	shapiro = Machine{2, []int{0, 0, 1, 1}, [][]int{{0, 1}, {0, 3}, {2, 3}, {2, 1}}}
)

// some returns a machine that is made by chance.
func some(chance *rand.Rand, base, states, outs int) Machine {
	m := Machine{Base: base, Next: make([][]int, states)}
	for range states {
		m.Out = append(m.Out, chance.Intn(outs))
	}
	for s := range m.Next {
		var same []int
		for t, o := range m.Out {
			if o == m.Out[s] {
				same = append(same, t)
			}
		}
		m.Next[s] = append(m.Next[s], same[chance.Intn(len(same))])
		for len(m.Next[s]) < base {
			m.Next[s] = append(m.Next[s], chance.Intn(states))
		}
	}
	return m
}

func machines() []Machine {
	out := []Machine{morse, seven, shapiro}
	chance := rand.New(rand.NewSource(7))
	for i := range 120 {
		out = append(out, some(chance, 2+i%4, 1+chance.Intn(12), 1+chance.Intn(3)))
	}
	for i := range 60 {
		out = append(out, some(chance, 2+i%2, 1+chance.Intn(4), 2))
	}
	return out
}

// number follows the definition.
func number(m Machine, s int, n int64) int {
	if n == 0 {
		return m.Out[s]
	}
	k := int64(m.Base)
	return number(m, m.Next[s][n%k], n/k)
}

func TestCheck(t *testing.T) {
	long := Machine{Base: 2}
	for range 13 {
		long.Out, long.Next = append(long.Out, 0), append(long.Next, []int{0, 0})
	}
	if e := Check(Machine{2, long.Out[:12], long.Next[:12]}); e != api.OK {
		t.Errorf("Check of twelve states: %d", e)
	}
	for _, m := range machines() {
		if e := Check(m); e != api.OK {
			t.Errorf("Check of %v: %d", m, e)
		}
	}
	for _, m := range []Machine{
		{}, long, {1, []int{0}, [][]int{{0}}}, {6, []int{0}, [][]int{{0, 0, 0, 0, 0, 0}}}, {2, nil, nil}, {2, []int{0}, nil}, {2, []int{0}, [][]int{{0, 0}, {0, 0}}},
		{2, []int{10}, [][]int{{0, 0}}}, {2, []int{-1}, [][]int{{0, 0}}}, {2, []int{0}, [][]int{{0}}}, {2, []int{0}, [][]int{{0, 0, 0}}}, {2, []int{0}, [][]int{nil}},
		{2, []int{0}, [][]int{{0, 1}}}, {2, []int{0}, [][]int{{-1, 0}}}, {2, []int{0}, [][]int{{math.MinInt, 0}}}, {2, []int{0}, [][]int{{0, math.MaxInt}}},
		{2, []int{0, 1}, [][]int{{1, 0}, {1, 0}}}, {-2, []int{0}, [][]int{{0, 0}}}, {math.MaxInt, []int{0}, [][]int{{0, 0}}},
	} {
		if e := Check(m); e != api.ErrAuto {
			t.Errorf("Check of %v: %d", m, e)
		}
	}
}

func none(t *testing.T, name string, want, e api.Errno, values ...any) {
	t.Helper()
	if e != want {
		t.Errorf("%s: the error %d, want %d", name, e, want)
	}
	for _, v := range values {
		if !reflect.ValueOf(v).IsZero() {
			t.Errorf("%s: %v next to an error", name, v)
		}
	}
}

func numbers(many, value int) []int {
	return slices.Repeat([]int{value}, many)
}

func tables(rows, columns, value int) [][]int {
	var out [][]int
	for range rows {
		out = append(out, numbers(columns, value))
	}
	return out
}

func TestErrors(t *testing.T) {
	bad := Machine{Base: 2}
	check := func(m Machine, want api.Errno, n int64, i, p int, list []int, table [][]int) {
		t.Helper()
		a, e := At(m, n)
		none(t, "At", want, e, a)
		f, e := First(m, i)
		none(t, "First", want, e, f)
		x, e := Later(m, i)
		none(t, "Later", want, e, x)
		x, e = Every(m, p, 0)
		none(t, "Every step", want, e, x)
		x, e = Every(m, 1, i)
		none(t, "Every from", want, e, x)
		x, e = Map(m, list)
		none(t, "Map", want, e, x)
		x, e = Both(m, m, table)
		none(t, "Both", want, e, x)
		is, e := IsRound(m, i, 1)
		none(t, "IsRound q", want, e, is)
		is, e = IsRound(m, 0, p)
		none(t, "IsRound p", want, e, is)
		least, is, e := Ever(m, i)
		none(t, "Ever", want, e, least, is)
	}
	check(bad, api.ErrAuto, -1, -1, 0, nil, nil)
	check(bad, api.ErrAuto, 1, 1, 1, numbers(10, 1), tables(10, 10, 1))
	check(morse, api.ErrArg, -1, -1, 0, nil, nil)
	check(morse, api.ErrArg, math.MinInt64, 1001, 101, numbers(9, 1), tables(9, 10, 1))
	check(morse, api.ErrArg, -1, math.MaxInt, math.MinInt, numbers(11, 1), tables(11, 10, 1))
	check(morse, api.ErrArg, -1, math.MinInt, math.MaxInt, numbers(10, 10), tables(10, 9, 1))
	check(morse, api.ErrArg, -1, -1, 0, numbers(10, -1), tables(10, 10, 10))
	check(morse, api.ErrArg, -1, -1, 0, append(numbers(9, 1), math.MaxInt), append(tables(9, 10, 1), numbers(11, 1)))
	for _, step := range []int{0, 31} {
		x, e := Every(morse, step, 0)
		none(t, "Every", api.ErrArg, e, x)
	}
	for _, from := range []int{-1, 101} {
		x, e := Later(morse, from)
		none(t, "Later", api.ErrArg, e, x)
		x, e = Every(morse, 1, from)
		none(t, "Every", api.ErrArg, e, x)
		is, e := IsRound(morse, from, 1)
		none(t, "IsRound", api.ErrArg, e, is)
	}
	least, is, e := Ever(morse, 10)
	none(t, "Ever", api.ErrArg, e, least, is)
	for _, x := range [][2]Machine{{bad, morse}, {morse, bad}, {bad, seven}, {bad, bad}} {
		n, is, e := Same(x[0], x[1])
		none(t, "Same", api.ErrAuto, e, n, is)
		m, e := Both(x[0], x[1], nil)
		none(t, "Both", api.ErrAuto, e, m)
	}
	n, is, e := Same(morse, seven)
	none(t, "Same", api.ErrArg, e, n, is)
	m, e := Both(morse, seven, tables(10, 10, 0))
	none(t, "Both", api.ErrArg, e, m)
	m, e = Form(bad)
	none(t, "Form", api.ErrAuto, e, m)
	m, e = Squared(bad)
	none(t, "Squared", api.ErrAuto, e, m)
	m, e = Squared(seven)
	none(t, "Squared", api.ErrArg, e, m)
	q, p, is, e := FindRound(bad)
	none(t, "FindRound", api.ErrAuto, e, q, p, is)
	k, e := Kernel(bad)
	none(t, "Kernel", api.ErrAuto, e, k)
	for _, x := range []struct {
		base         int
		first, round []int
	}{
		{1, nil, []int{0}}, {6, nil, []int{0}}, {2, numbers(21, 0), []int{0}}, {2, nil, nil}, {2, nil, numbers(21, 0)}, {2, []int{10}, []int{0}},
		{2, nil, []int{-1}}, {math.MinInt, nil, []int{0}}, {2, nil, []int{math.MaxInt}},
	} {
		m, e := Round(x.base, x.first, x.round)
		none(t, "Round", api.ErrArg, e, m)
	}
}

func TestNumbers(t *testing.T) {
	for _, m := range machines() {
		first, e := First(m, 200)
		for n, a := range first {
			at, e := At(m, int64(n))
			if a != number(m, 0, int64(n)) || at != a || e != api.OK {
				t.Errorf("First of %v at %d: %d, %d", m, n, a, at)
			}
		}
		if len(first) != 200 || e != api.OK {
			t.Errorf("First of %v: %d, %d", m, len(first), e)
		}
		for _, n := range []int64{math.MaxInt64, math.MaxInt64 - 1, 1 << 40} {
			if a, e := At(m, n); a != number(m, 0, n) || e != api.OK {
				t.Errorf("At of %v, %d: %d", m, n, a)
			}
		}
	}
	if f, e := First(Morse(), 8); fmt.Sprint(f) != "[0 1 1 0 1 0 0 1]" || e != api.OK {
		t.Errorf("First of Morse: %v", f)
	}
	if f, e := First(morse, 0); len(f) != 0 || e != api.OK {
		t.Errorf("First of none: %v", f)
	}
	if f, e := First(morse, 1000); len(f) != 1000 || e != api.OK {
		t.Errorf("First of 1000: %d", len(f))
	}
}

// differ says whether states have different sequences, by words no longer than there are states.
func differ(m Machine, many int) [][]bool {
	out := make([][]bool, many)
	for s := range out {
		out[s] = make([]bool, many)
		for t := range out[s] {
			out[s][t] = m.Out[s] != m.Out[t]
		}
	}
	for range many {
		for s := range out {
			for t := range out[s] {
				for r := range m.Base {
					out[s][t] = out[s][t] || out[m.Next[s][r]][m.Next[t][r]]
				}
			}
		}
	}
	return out
}

// isForm says whether a machine has different states, numbered as they are met.
func isForm(m Machine) bool {
	apart := differ(m, len(m.Out))
	for s := range m.Out {
		for t := range s {
			if !apart[s][t] {
				return false
			}
		}
	}
	met := 1
	for s, row := range m.Next {
		if s >= met {
			return false
		}
		for _, to := range row {
			if to > met {
				return false
			}
			if to == met {
				met++
			}
		}
	}
	return met == len(m.Out)
}

func TestForm(t *testing.T) {
	for _, m := range machines() {
		form, e := Form(m)
		if e != api.OK || Check(form) != api.OK || form.Base != m.Base || !isForm(form) {
			t.Errorf("Form of %v: %v", m, form)
		}
		if n, same, e := Same(m, form); !same || n != 0 || e != api.OK {
			t.Errorf("Form of %v: %v differs at %d", m, form, n)
		}
		for n := range int64(300) {
			if number(m, 0, n) != number(form, 0, n) {
				t.Errorf("Form of %v: %v differs at %d", m, form, n)
				break
			}
		}
		again, _ := Form(form)
		if !reflect.DeepEqual(again, form) {
			t.Errorf("P5.7 of %v: %v, %v", m, form, again)
		}
		kernel, e := Kernel(m)
		apart := differ(m, len(m.Out))
		reached := []int{0}
		for at := 0; at < len(reached); at++ {
			for _, to := range m.Next[reached[at]] {
				if !slices.ContainsFunc(reached, func(s int) bool { return !apart[s][to] }) {
					reached = append(reached, to)
				}
			}
		}
		if kernel != len(form.Out) || kernel != len(reached) || e != api.OK {
			t.Errorf("Kernel of %v: %d, want %d", m, kernel, len(reached))
		}
	}
}

func TestSame(t *testing.T) {
	all := machines()
	same, differ := 0, 0
	for i, a := range all {
		for _, b := range all[:i] {
			n, is, e := Same(a, b)
			if a.Base != b.Base {
				none(t, "Same", api.ErrArg, e, n, is)
				continue
			}
			f, _ := Form(a)
			g, _ := Form(b)
			if is != reflect.DeepEqual(f, g) || e != api.OK {
				t.Errorf("Same of %v, %v: %t", a, b, is)
			}
			if is {
				same++
				if n != 0 {
					t.Errorf("Same of %v, %v: %d", a, b, n)
				}
				continue
			}
			differ++
			limit := math.Pow(float64(a.Base), float64(len(a.Out)+len(b.Out)))
			if number(a, 0, n) == number(b, 0, n) || n < 0 || float64(n) >= limit {
				t.Errorf("Same of %v, %v: %d", a, b, n)
			}
		}
	}
	if same == 0 || differ == 0 {
		t.Errorf("%d same, %d different", same, differ)
	}
	// machines that differ late: one counts the ones up to eleven
	a := Machine{Base: 5}
	for s := range 12 {
		a.Out, a.Next = append(a.Out, 0), append(a.Next, []int{s, s, s, s, min(s+1, 11)})
	}
	a.Out[11] = 1
	a.Next[11][0] = 11
	b := Machine{5, []int{0}, [][]int{{0, 0, 0, 0, 0}}}
	if n, is, e := Same(a, b); is || number(a, 0, n) == 0 || n >= 1220703125 || e != api.OK {
		t.Errorf("Same: %d, %t", n, is)
	}
}

// wantMachine checks a form that was made by a call against its numbers.
func wantMachine(t *testing.T, name string, m Machine, e api.Errno, base int, want func(n int64) int) {
	t.Helper()
	if e == api.ErrLarge {
		none(t, name, api.ErrLarge, e, m)
		return
	}
	if e != api.OK || m.Base != base || Check(m) != api.OK || !isForm(m) {
		t.Errorf("%s: %v, %d", name, m, e)
		return
	}
	for n := range int64(400) {
		if number(m, 0, n) != want(n) {
			t.Errorf("%s: %v differs at %d", name, m, n)
			return
		}
	}
}

func TestFromMachines(t *testing.T) {
	chance := rand.New(rand.NewSource(8))
	to := []int{5, 1, 5, 0, 9, 2, 2, 2, 7, 8}
	table := tables(10, 10, 0)
	for i := range 100 {
		table[i/10][i%10] = chance.Intn(3)
	}
	all := machines()
	done := map[api.Errno]int{}
	for i, m := range all {
		by, step := chance.Intn(101), 1+chance.Intn(30)
		if i%2 == 0 {
			by, step = chance.Intn(4), 1+chance.Intn(4)
		}
		x, e := Later(m, by)
		wantMachine(t, fmt.Sprint("Later of ", m, by), x, e, m.Base, func(n int64) int { return number(m, 0, n+int64(by)) })
		done[e]++
		x, e = Every(m, step, by)
		wantMachine(t, fmt.Sprint("Every of ", m, step, by), x, e, m.Base, func(n int64) int { return number(m, 0, int64(step)*n+int64(by)) })
		done[e]++
		x, e = Map(m, to)
		wantMachine(t, fmt.Sprint("Map of ", m), x, e, m.Base, func(n int64) int { return to[number(m, 0, n)] })
		if e != api.OK {
			t.Errorf("Map of %v: %d", m, e)
		}
		other := all[(i+4)%len(all)]
		x, e = Both(m, other, table)
		if m.Base != other.Base {
			none(t, "Both", api.ErrArg, e, x)
		} else {
			wantMachine(t, fmt.Sprint("Both of ", m, other), x, e, m.Base, func(n int64) int { return table[number(m, 0, n)][number(other, 0, n)] })
			done[e]++
		}
		if m.Base == 2 {
			x, e = Squared(m)
			wantMachine(t, fmt.Sprint("Squared of ", m), x, e, 4, func(n int64) int { return number(m, 0, n) })
			if e != api.OK {
				t.Errorf("Squared of %v: %d", m, e)
			}
		}
	}
	if done[api.OK] == 0 || done[api.ErrLarge] == 0 {
		t.Errorf("what was tried: %v", done)
	}
	for _, m := range []Machine{morse, seven} {
		later, e := Later(m, 100)
		every, f := Every(m, 30, 100)
		if e != api.OK && e != api.ErrLarge || f != api.OK && f != api.ErrLarge {
			t.Errorf("Later of %v: %d, %d", m, e, f)
		}
		wantMachine(t, "Later", later, e, m.Base, func(n int64) int { return number(m, 0, n+100) })
		wantMachine(t, "Every", every, f, m.Base, func(n int64) int { return number(m, 0, 30*n+100) })
	}
	if x, e := Every(morse, 2, 0); !reflect.DeepEqual(x, Morse()) || e != api.OK {
		t.Errorf("Every of Morse: %v", x)
	}
	if x, e := Every(morse, 2, 1); !reflect.DeepEqual(x, Machine{2, []int{1, 0}, [][]int{{0, 1}, {1, 0}}}) || e != api.OK {
		t.Errorf("Every of Morse: %v", x)
	}
	if x, e := Later(shapiro, 0); !reflect.DeepEqual(x, Machine{2, []int{0, 0, 1, 1}, [][]int{{0, 1}, {0, 2}, {3, 1}, {3, 2}}}) || e != api.OK {
		t.Errorf("Later of Shapiro: %v", x)
	}
}

// isLargeBy counts the different sequences that digits lead to, as far as their numbers below a limit show it.
func isLargeBy(base int, at func(n int) int) bool {
	kinds := map[string]bool{}
	for i, power := 0, 1; i < 8 && power < 3000; i, power = i+1, power*base {
		for j := range power {
			kind := ""
			for n := range 60 {
				kind += fmt.Sprint(at(power*n + j))
			}
			kinds[kind] = true
			if len(kinds) > 12 {
				return true
			}
		}
	}
	return false
}

func TestRound(t *testing.T) {
	chance := rand.New(rand.NewSource(9))
	done := map[api.Errno]int{}
	for i := range 200 {
		base := 2 + i%4
		first, round := make([]int, chance.Intn(1+i%21)), make([]int, 1+chance.Intn(1+i%20))
		for k := range first {
			first[k] = chance.Intn(2)
		}
		for k := range round {
			round[k] = chance.Intn(3)
		}
		at := func(n int) int {
			if n < len(first) {
				return first[n]
			}
			return round[(n-len(first))%len(round)]
		}
		m, e := Round(base, first, round)
		done[e]++
		wantMachine(t, fmt.Sprint("Round of ", base, first, round), m, e, base, func(n int64) int { return at(int(n)) })
		if isLargeBy(base, at) != (e == api.ErrLarge) {
			t.Errorf("Round of %d, %v, %v: %d", base, first, round, e)
		}
		if e != api.OK {
			continue
		}
		if is, e := IsRound(m, len(first), len(round)); !is || e != api.OK {
			t.Errorf("IsRound of Round of %d, %v, %v", base, first, round)
		}
		p := 1
		for isRound := false; !isRound; p++ {
			isRound = true
			for n := len(first); n < len(first)+60; n++ {
				isRound = isRound && at(n) == at(n+p)
			}
		}
		p--
		q := len(first)
		for q > 0 && at(q-1) == at(q-1+p) {
			q--
		}
		gotQ, gotP, found, e := FindRound(m)
		if gotQ != q || gotP != p || !found || e != api.OK {
			t.Errorf("FindRound of Round of %d, %v, %v: %d, %d, %t", base, first, round, gotQ, gotP, found)
		}
		if q > 0 {
			if is, e := IsRound(m, q-1, p); is || e != api.OK {
				t.Errorf("IsRound of Round of %d, %v, %v from %d", base, first, round, q-1)
			}
		}
	}
	if done[api.OK] == 0 || done[api.ErrLarge] == 0 {
		t.Errorf("what was tried: %v", done)
	}
	if m, e := Round(2, nil, []int{0, 1}); !reflect.DeepEqual(m, Machine{2, []int{0, 0, 1}, [][]int{{1, 2}, {1, 1}, {2, 2}}}) || e != api.OK {
		t.Errorf("Round: %v, %d", m, e)
	}
	if m, e := Round(5, numbers(20, 3), numbers(20, 3)); !reflect.DeepEqual(m, Machine{5, []int{3}, [][]int{{0, 0, 0, 0, 0}}}) || e != api.OK {
		t.Errorf("Round: %v, %d", m, e)
	}
}

func TestIsRound(t *testing.T) {
	for _, m := range machines() {
		for _, x := range [][2]int{{0, 1}, {1, 1}, {0, 2}, {3, 4}, {100, 100}, {60, 30}} {
			q, p := x[0], x[1]
			want := true
			for n := q; n < q+4000; n++ {
				want = want && number(m, 0, int64(n)) == number(m, 0, int64(n+p))
			}
			if is, e := IsRound(m, q, p); is && !want || e != api.OK || !is && want && len(m.Out) < 4 {
				t.Errorf("IsRound of %v, %d, %d: %t, want %t", m, q, p, is, want)
			}
		}
		q, p, found, e := FindRound(m)
		if e != api.OK || !found && q+p != 0 {
			t.Errorf("FindRound of %v: %d, %d, %d", m, q, p, e)
		}
		for by := 1; by <= 30; by++ {
			is, _ := IsRound(m, 60, by)
			if is && !found || found && is && by < p || found && !is && by == p {
				t.Errorf("FindRound of %v: %d, %d, %t", m, q, p, found)
			}
		}
		if found {
			is, _ := IsRound(m, q, p)
			less := false
			if q > 0 {
				less, _ = IsRound(m, q-1, p)
			}
			if !is || less {
				t.Errorf("FindRound of %v: %d, %d", m, q, p)
			}
		}
	}
	// n = 59 is the last number that is unlike all others, or n = 60
	for _, x := range []struct {
		digits [3]int
		found  bool
	}{{[3]int{4, 1, 2}, true}, {[3]int{0, 2, 2}, false}} {
		m := Machine{5, []int{0, 0, 0, 1, 0}, [][]int{numbers(5, 4), numbers(5, 4), numbers(5, 4), {3, 4, 4, 4, 4}, numbers(5, 4)}}
		for s, digit := range x.digits {
			m.Next[s][digit] = s + 1
		}
		q, p, found, e := FindRound(m)
		if found != x.found || e != api.OK || found && (q != 60 || p != 1) || !found && q+p != 0 {
			t.Errorf("FindRound of %v: %d, %d, %t", m, q, p, found)
		}
		if is, e := IsRound(m, 61, 1); !is || e != api.OK {
			t.Errorf("IsRound of %v: %t", m, is)
		}
	}
	table := tables(10, 10, 0)
	table[1][1] = 1
	five, e := Round(5, nil, []int{1, 0, 0, 0, 0})
	six, f := Round(5, nil, []int{1, 0, 0, 0, 0, 0})
	thirty, g := Both(five, six, table)
	if q, p, found, h := FindRound(thirty); q != 0 || p != 30 || !found || e+f+g+h != api.OK {
		t.Errorf("FindRound of thirty: %d, %d, %t, %d", q, p, found, e+f+g+h)
	}
	if is, e := IsRound(morse, 100, 100); is || e != api.OK {
		t.Errorf("IsRound of Morse: %t", is)
	}
	if q, p, found, e := FindRound(morse); q != 0 || p != 0 || found || e != api.OK {
		t.Errorf("FindRound of Morse: %d, %d", q, p)
	}
	if q, p, found, e := FindRound(seven); q != 0 || p != 1 || !found || e != api.OK {
		t.Errorf("FindRound of sevens: %d, %d", q, p)
	}
}

func TestEver(t *testing.T) {
	for _, m := range machines() {
		for out := range 10 {
			n, ok, e := Ever(m, out)
			limit := int64(30000)
			want := int64(-1)
			for i := range limit {
				if number(m, 0, i) == out {
					want = i
					break
				}
			}
			switch {
			case e != api.OK || !ok && n != 0 || ok && number(m, 0, n) != out:
				t.Errorf("Ever of %v, %d: %d, %t", m, out, n, ok)
			case want >= 0 && (!ok || n != want) || want < 0 && ok && n < limit:
				t.Errorf("Ever of %v, %d: %d, want %d", m, out, n, want)
			}
		}
	}
	late := Machine{Base: 5}
	for s := range 12 {
		late.Out, late.Next = append(late.Out, s/11), append(late.Next, []int{s, 0, 0, 0, min(s+1, 11)})
	}
	if n, ok, e := Ever(late, 1); n != 48828124 || !ok || e != api.OK {
		t.Errorf("Ever of a late one: %d, %t", n, ok)
	}
}

func TestConsequences(t *testing.T) {
	for _, m := range machines() {
		step, e := Form(m)
		for by := range 5 {
			x, f := Later(m, by)
			if e == api.OK && f == api.OK && !reflect.DeepEqual(x, step) {
				t.Errorf("P5.7 of %v by %d: %v, %v", m, by, x, step)
			}
			every, g := Every(m, 1, by)
			if f != g || !reflect.DeepEqual(every, x) {
				t.Errorf("P5.7 of %v by %d: %v, %v", m, by, x, every)
			}
			if e == api.OK {
				step, e = Later(step, 1)
			}
		}
	}
	if !reflect.DeepEqual(Morse(), morse) {
		t.Errorf("Morse: %v", Morse())
	}
	first, _ := First(Morse(), 300)
	for p := 1; p < 60; p++ {
		for n := range 100 {
			if slices.Equal(first[n:n+p+1], first[n+p:n+2*p+1]) {
				t.Errorf("P5.8 at %d by %d", n, p)
			}
		}
	}
}

func TestMemory(t *testing.T) {
	m := Machine{2, append([]int{0, 0, 1, 1}, 9)[:4], [][]int{{0, 1}, {0, 3}, {2, 3}, {2, 1}}}
	x, _ := Form(m)
	y, _ := Later(m, 0)
	z, _ := Map(m, []int{0, 1, 2, 3, 4, 5, 6, 7, 8, 9})
	for _, f := range []Machine{x, y, z, Morse()} {
		for s := range f.Out {
			f.Out[s] = 5
			f.Next[s][0], f.Next[s][1] = 0, 0
		}
	}
	if !reflect.DeepEqual(m, shapiro) || m.Out[:5][4] != 9 || !reflect.DeepEqual(Morse(), morse) {
		t.Errorf("the machine has changed: %v", m)
	}
}
