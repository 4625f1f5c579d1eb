package tally

import (
	"fmt"
	"math"
	"math/rand"
	"reflect"
	"slices"
	"testing"

	"tosher/api"
)

var (
	pairs = Protocol{2, []int{0, 1}, []int{0}, [][4]int{{0, 0, 1, 1}}}
	still = Protocol{1, []int{1}, []int{0}, nil}
)

// protocols are those of the makers, and some by chance.
func protocols() []Protocol {
	out := []Protocol{pairs, still, Majority()}
	for many := 1; many <= 4; many++ {
		p, _ := AtLeast(many)
		out = append(out, p)
	}
	for m := 1; m <= 3; m++ {
		for r := range m {
			p, _ := Leaves(m, r)
			out = append(out, p)
		}
	}
	chance := rand.New(rand.NewSource(10))
	for len(out) < 100 {
		p := Protocol{States: 1 + chance.Intn(5)}
		for range p.States {
			p.Out = append(p.Out, chance.Intn(2))
		}
		for range 1 + chance.Intn(2) {
			p.Start = append(p.Start, chance.Intn(p.States))
		}
		often := 1 + chance.Intn(4)
		for a := range p.States {
			for b := a; b < p.States; b++ {
				if chance.Intn(4) < often {
					p.Rules = append(p.Rules, [4]int{a, b, chance.Intn(p.States), chance.Intn(p.States)})
				}
			}
		}
		out = append(out, p)
	}
	return out
}

// someCrowd returns a crowd that is made by chance.
func someCrowd(chance *rand.Rand, p Protocol, most int) []int {
	out := make([]int, p.States)
	for range 1 + chance.Intn(most) {
		out[chance.Intn(p.States)]++
	}
	return out
}

// next returns the crowd after a rule, nil if the rule can not be done.
func next(p Protocol, c []int, rule int) []int {
	out := slices.Clone(c)
	r := p.Rules[rule]
	out[r[0]]--
	out[r[1]]--
	if slices.Min(out) < 0 {
		return nil
	}
	out[r[2]]++
	out[r[3]]++
	return out
}

// reachable returns all crowds to which ways lead, by the number of rules that are needed.
func reachable(p Protocol, c []int) map[string][]int {
	out := map[string][]int{fmt.Sprint(c): c}
	for list := [][]int{c}; len(list) > 0; list = list[1:] {
		for rule := range p.Rules {
			if n := next(p, list[0], rule); n != nil && out[fmt.Sprint(n)] == nil {
				out[fmt.Sprint(n)] = n
				list = append(list, n)
			}
		}
	}
	return out
}

func isSettled(p Protocol, c []int, out int) bool {
	for _, d := range reachable(p, c) {
		for state, many := range d {
			if many > 0 && p.Out[state] != out {
				return false
			}
		}
	}
	return true
}

func isDecided(p Protocol, c []int, out int) bool {
	settled := map[string]bool{}
	for name, d := range reachable(p, c) {
		settled[name] = isSettled(p, d, out)
	}
	for _, d := range reachable(p, c) {
		some := false
		for name := range reachable(p, d) {
			some = some || settled[name]
		}
		if !some {
			return false
		}
	}
	return true
}

func TestCheck(t *testing.T) {
	for _, p := range protocols() {
		if e := Check(p); e != api.OK {
			t.Errorf("Check of %v: %d", p, e)
		}
	}
	var all [][4]int
	for a := range 5 {
		for b := a; b < 5; b++ {
			all = append(all, [4]int{a, b, 4, 0})
		}
	}
	if e := Check(Protocol{5, []int{0, 1, 0, 1, 0}, []int{4, 4}, all}); e != api.OK {
		t.Errorf("Check of all rules: %d", e)
	}
	two := func(rules ...[4]int) Protocol { return Protocol{2, []int{0, 1}, []int{0}, rules} }
	for _, p := range []Protocol{
		{}, {States: 0, Start: []int{0}}, {6, make([]int, 6), []int{0}, nil}, {-1, nil, []int{0}, nil}, {math.MaxInt, []int{0}, []int{0}, nil},
		{2, []int{0}, []int{0}, nil}, {2, []int{0, 1, 1}, []int{0}, nil}, {2, []int{0, 2}, []int{0}, nil}, {2, []int{-1, 0}, []int{0}, nil},
		{2, []int{0, 1}, nil, nil}, {2, []int{0, 1}, []int{0, 0, 0}, nil}, {2, []int{0, 1}, []int{2}, nil}, {2, []int{0, 1}, []int{0, -1}, nil},
		two([4]int{1, 0, 0, 0}), two([4]int{0, 0, 0, 2}), two([4]int{0, 0, -1, 0}), two([4]int{-1, 0, 0, 0}), two([4]int{0, 2, 0, 0}),
		two([4]int{0, 0, 0, 0}, [4]int{0, 0, 1, 1}), two([4]int{0, 1, 0, 0}, [4]int{0, 0, 0, 0}), two([4]int{0, 0, 0, math.MaxInt}),
		two([4]int{0, math.MaxInt, 0, 0}), two([4]int{math.MinInt, 0, 0, 0}), two(make([][4]int, 16)...),
	} {
		if e := Check(p); e != api.ErrTally {
			t.Errorf("Check of %v: %d", p, e)
		}
	}
}

func none(t *testing.T, name string, want, e api.Errno, values ...any) {
	t.Helper()
	if e != want {
		t.Errorf("%s: the error %d, want %d", name, e, want)
	}
	for _, v := range values {
		if !reflect.ValueOf(v).IsZero() {
			t.Errorf("%s: %v next to an error", name, v)
		}
	}
}

func TestErrors(t *testing.T) {
	good := []int{1, 1}
	check := func(p Protocol, crowd []int, kinds []int, want api.Errno) {
		t.Helper()
		c, n, e := Meet(p, crowd, []int{0})
		none(t, "Meet", want, e, c, n)
		w, ok, e := Way(p, crowd, good)
		none(t, "Way from", want, e, w, ok)
		w, ok, e = Way(p, good, crowd)
		none(t, "Way to", want, e, w, ok)
		n, e = Reached(p, crowd)
		none(t, "Reached", want, e, n)
		n, ok, e = Settled(p, crowd)
		none(t, "Settled", want, e, n, ok)
		n, ok, e = Decides(p, crowd)
		none(t, "Decides", want, e, n, ok)
		w, ok, e = Forbids(p, crowd, good)
		none(t, "Forbids from", want, e, w, ok)
		w, ok, e = Forbids(p, good, crowd)
		none(t, "Forbids to", want, e, w, ok)
		w, e = Crowd(p, kinds)
		none(t, "Crowd", want, e, w)
	}
	bad := Protocol{2, []int{0, 1}, nil, nil}
	check(bad, good, []int{1}, api.ErrTally)
	check(bad, nil, nil, api.ErrTally)
	for _, crowd := range [][]int{nil, {1}, {1, 1, 1}, {0, 0}, {-1, 2}, {10, 0}, {5, 5}, {-1, 10}, {math.MaxInt, math.MaxInt}, {math.MinInt, math.MinInt}} {
		check(pairs, crowd, append(slices.Clone(crowd), 0), api.ErrArg)
	}
	for _, kinds := range [][]int{nil, {0}, {10}, {-1}, {1, 1}, {math.MaxInt}} {
		c, e := Crowd(pairs, kinds)
		none(t, "Crowd", api.ErrArg, e, c)
		is, e := True(Question{[]int{1}, 1, 0}, kinds)
		none(t, "True", api.ErrArg, e, is)
	}
	for _, q := range []Question{
		{nil, 0, 0}, {[]int{1, 1, 1}, 0, 0}, {[]int{6}, 0, 0}, {[]int{-6}, 0, 0}, {[]int{1}, 10, 0}, {[]int{1}, -10, 0}, {[]int{1}, 0, 10},
		{[]int{1}, 0, -1}, {[]int{math.MinInt}, 0, 0}, {[]int{1}, math.MaxInt, 0}, {[]int{1}, 0, math.MinInt},
	} {
		is, e := True(q, make([]int, len(q.A)))
		none(t, "True", api.ErrArg, e, is)
		is, e = True(q, []int{1})
		none(t, "True", api.ErrArg, e, is)
		k, is, e := Answers(pairs, q)
		none(t, "Answers", api.ErrArg, e, k, is)
		k, is, e = Answers(bad, q)
		none(t, "Answers", api.ErrTally, e, k, is)
	}
	k, is, e := Answers(pairs, Question{[]int{1, 1}, 0, 0})
	none(t, "Answers", api.ErrArg, e, k, is)
	is, e = True(Question{[]int{1, 1}, 0, 0}, []int{5, 5})
	none(t, "True", api.ErrArg, e, is)
	for _, x := range []struct {
		weights []int
		m       int
	}{{nil, 0}, {[]int{1}, 0}, {[]int{1, 1, 1}, 0}, {[]int{1, 1001}, 0}, {[]int{-1001, 1}, 0}, {[]int{1, 1}, -1}, {[]int{1, 1}, 1001}, {[]int{math.MinInt, 0}, 0}} {
		is, e := Kept(pairs, x.weights, x.m)
		none(t, "Kept", api.ErrArg, e, is)
		is, e = Kept(bad, x.weights, x.m)
		none(t, "Kept", api.ErrTally, e, is)
	}
	n, e := Weighs(bad)
	none(t, "Weighs", api.ErrTally, e, n)
	for _, many := range []int{0, 5, -1, math.MaxInt} {
		p, e := AtLeast(many)
		none(t, "AtLeast", api.ErrArg, e, p)
	}
	for _, x := range [][2]int{{0, 0}, {4, 0}, {1, 1}, {3, 3}, {2, -1}, {math.MinInt, 0}, {3, math.MaxInt}} {
		p, e := Leaves(x[0], x[1])
		none(t, "Leaves", api.ErrArg, e, p)
	}
}

func TestMeet(t *testing.T) {
	chance := rand.New(rand.NewSource(11))
	for _, p := range protocols() {
		for range 10 {
			c := someCrowd(chance, p, 9)
			way := make([]int, chance.Intn(8))
			for i := range way {
				way[i] = chance.Intn(len(p.Rules)+2) - 1
				if len(p.Rules) > 0 && chance.Intn(4) > 0 {
					way[i] = max(way[i], 0) % len(p.Rules)
				}
			}
			want, done := slices.Clone(c), 0
			for _, rule := range way {
				if rule < 0 || rule >= len(p.Rules) || next(p, want, rule) == nil {
					break
				}
				want = next(p, want, rule)
				done++
			}
			got, n, e := Meet(p, c, way)
			if !slices.Equal(got, want) || n != done || e != api.OK {
				t.Errorf("Meet of %v, %v, %v: %v, %d", p, c, way, got, n)
			}
		}
	}
	if c, n, e := Meet(pairs, []int{3, 0}, []int{0, 0}); fmt.Sprint(c) != "[1 2]" || n != 1 || e != api.OK {
		t.Errorf("Meet: %v, %d", c, n)
	}
	if c, n, e := Meet(pairs, []int{3, 0}, []int{math.MaxInt}); fmt.Sprint(c) != "[3 0]" || n != 0 || e != api.OK {
		t.Errorf("Meet: %v, %d", c, n)
	}
	if c, n, e := Meet(pairs, []int{3, 0}, []int{math.MinInt}); fmt.Sprint(c) != "[3 0]" || n != 0 || e != api.OK {
		t.Errorf("Meet: %v, %d", c, n)
	}
}

func TestWay(t *testing.T) {
	chance := rand.New(rand.NewSource(12))
	for _, p := range protocols() {
		from := someCrowd(chance, p, 6)
		near := map[string]int{fmt.Sprint(from): 0}
		for list := [][]int{from}; len(list) > 0; list = list[1:] {
			for rule := range p.Rules {
				n := next(p, list[0], rule)
				if _, ok := near[fmt.Sprint(n)]; n != nil && !ok {
					near[fmt.Sprint(n)] = near[fmt.Sprint(list[0])] + 1
					list = append(list, n)
				}
			}
		}
		reached, e := Reached(p, from)
		if reached != len(near) || e != api.OK {
			t.Errorf("Reached of %v, %v: %d, want %d", p, from, reached, len(near))
		}
		for range 30 {
			to := someCrowd(chance, p, 6)
			steps, ok := near[fmt.Sprint(to)]
			way, got, e := Way(p, from, to)
			end, done, _ := Meet(p, from, way)
			if got != ok || e != api.OK || ok && (len(way) != steps || done != steps || !slices.Equal(end, to)) || !ok && way != nil {
				t.Errorf("Way of %v from %v to %v: %v, %t", p, from, to, way, got)
			}
			weights, forbidden, e := Forbids(p, from, to)
			if forbidden && got || e != api.OK {
				t.Errorf("P6.6 of %v from %v to %v: %v", p, from, to, weights)
			}
		}
		if way, ok, e := Way(p, from, from); len(way) != 0 || !ok || e != api.OK {
			t.Errorf("Way of %v from %v to itself: %v, %t", p, from, way, ok)
		}
	}
	if way, ok, e := Way(pairs, []int{2, 0}, []int{0, 3}); way != nil || ok || e != api.OK {
		t.Errorf("Way to another sum: %v", way)
	}
}

func TestDeciding(t *testing.T) {
	chance := rand.New(rand.NewSource(13))
	settled, decided, not := 0, 0, 0
	for _, p := range protocols() {
		for range 6 {
			c := someCrowd(chance, p, 4)
			s, is, e := Settled(p, c)
			d, does, f := Decides(p, c)
			wantS, wantIs, wantD, wantDoes := 0, false, 0, false
			for out := range 2 {
				if isSettled(p, c, out) {
					wantS, wantIs = out, true
				}
				if isDecided(p, c, out) {
					wantD, wantDoes = out, true
				}
			}
			if s != wantS || is != wantIs || d != wantD || does != wantDoes || e+f != api.OK {
				t.Errorf("%v, %v: settled %d, %t, decided %d, %t, want %d, %t, %d, %t", p, c, s, is, d, does, wantS, wantIs, wantD, wantDoes)
			}
			if is {
				settled++
			}
			if !does {
				not++
				continue
			}
			decided++
			for _, other := range reachable(p, c) {
				if d2, does2, _ := Decides(p, other); d2 != d || !does2 {
					t.Errorf("P6.7 of %v, %v: %v", p, c, other)
				}
			}
		}
	}
	if settled == 0 || decided == settled || not == 0 {
		t.Errorf("what was tried: %d, %d, %d", settled, decided, not)
	}
	if d, ok, e := Decides(pairs, []int{2, 0}); d != 1 || !ok || e != api.OK {
		t.Errorf("Decides of two: %d, %t", d, ok)
	}
	if d, ok, e := Decides(pairs, []int{3, 0}); d != 0 || ok || e != api.OK {
		t.Errorf("Decides of three: %d, %t", d, ok)
	}
	if s, ok, e := Settled(pairs, []int{1, 0}); s != 0 || !ok || e != api.OK {
		t.Errorf("Settled of one: %d, %t", s, ok)
	}
	if s, ok, e := Settled(pairs, []int{2, 0}); s != 0 || ok || e != api.OK {
		t.Errorf("Settled of two: %d, %t", s, ok)
	}
}

func TestCrowd(t *testing.T) {
	p := Protocol{3, []int{0, 0, 1}, []int{2, 0}, nil}
	if c, e := Crowd(p, []int{3, 4}); fmt.Sprint(c) != "[4 0 3]" || e != api.OK {
		t.Errorf("Crowd: %v", c)
	}
	p.Start = []int{1, 1}
	if c, e := Crowd(p, []int{0, 9}); fmt.Sprint(c) != "[0 9 0]" || e != api.OK {
		t.Errorf("Crowd: %v", c)
	}
	if c, e := Crowd(p, []int{2, 3}); fmt.Sprint(c) != "[0 5 0]" || e != api.OK {
		t.Errorf("Crowd: %v", c)
	}
}

func TestTrue(t *testing.T) {
	for _, x := range []struct {
		q     Question
		kinds []int
		want  bool
	}{
		{Question{[]int{1}, 2, 0}, []int{3}, true}, {Question{[]int{1}, 2, 0}, []int{2}, true}, {Question{[]int{1}, 2, 0}, []int{1}, false},
		{Question{[]int{-5, 5}, -9, 0}, []int{2, 0}, false}, {Question{[]int{-5, 5}, -9, 0}, []int{1, 0}, true}, {Question{[]int{1, -1}, 1, 0}, []int{4, 4}, false},
		{Question{[]int{1}, 0, 1}, []int{7}, true}, {Question{[]int{1}, 1, 3}, []int{7}, true}, {Question{[]int{1}, -2, 3}, []int{7}, true},
		{Question{[]int{-1}, 2, 3}, []int{7}, true}, {Question{[]int{-1}, 1, 3}, []int{7}, false}, {Question{[]int{-1}, -7, 9}, []int{7}, true},
		{Question{[]int{2, 3}, 4, 5}, []int{1, 4}, true}, {Question{[]int{2, 3}, 9, 5}, []int{1, 4}, true}, {Question{[]int{2, 3}, 8, 5}, []int{1, 4}, false},
	} {
		if is, e := True(x.q, x.kinds); is != x.want || e != api.OK {
			t.Errorf("True of %v, %v: %t", x.q, x.kinds, is)
		}
	}
}

func TestAnswers(t *testing.T) {
	check := func(name string, p Protocol, kinds int, q Question) {
		t.Helper()
		if k, ok, e := Answers(p, q); !ok || k != nil || e != api.OK || Check(p) != api.OK || len(p.Start) != kinds {
			t.Errorf("%s does not solve %v: %v, %d", name, q, k, e)
		}
	}
	for many := 1; many <= 4; many++ {
		p, e := AtLeast(many)
		if e != api.OK {
			t.Errorf("AtLeast of %d: %d", many, e)
		}
		check(fmt.Sprint("AtLeast", many), p, 1, Question{[]int{1}, many, 0})
		if k, ok, _ := Answers(p, Question{[]int{1}, many + 1, 0}); ok || fmt.Sprint(k) != fmt.Sprint([]int{many}) {
			t.Errorf("AtLeast of %d solves another question: %v", many, k)
		}
	}
	for m := 1; m <= 3; m++ {
		for r := range m {
			p, e := Leaves(m, r)
			if e != api.OK {
				t.Errorf("Leaves of %d, %d: %d", m, r, e)
			}
			check(fmt.Sprint("Leaves", m, r), p, 1, Question{[]int{1}, r, m})
		}
	}
	check("Majority", Majority(), 2, Question{[]int{1, -1}, 1, 0})
	check("Majority", Majority(), 2, Question{[]int{2, -2}, 2, 0})
	if k, ok, e := Answers(Majority(), Question{[]int{1, -1}, 0, 0}); ok || k[0] != k[1] || e != api.OK {
		t.Errorf("Majority of as many: %v, %t", k, ok)
	}
	no := Protocol{1, []int{0}, []int{0, 0}, nil}
	for _, x := range []struct {
		q    Question
		want string
	}{{Question{[]int{1, 0}, 9, 0}, "[9 0]"}, {Question{[]int{0, 1}, 9, 0}, "[0 9]"}, {Question{[]int{4, 5}, 4, 9}, "[1 0]"}} {
		if k, ok, e := Answers(no, x.q); fmt.Sprint(k) != x.want && x.q.M == 0 || ok || e != api.OK {
			t.Errorf("Answers of no, %v: %v, %t", x.q, k, ok)
		}
	}
	no.Start = []int{0}
	if k, ok, e := Answers(no, Question{[]int{1}, 9, 0}); fmt.Sprint(k) != "[9]" || ok || e != api.OK {
		t.Errorf("Answers of no: %v, %t", k, ok)
	}
	chance := rand.New(rand.NewSource(14))
	for _, p := range protocols() {
		q := Question{B: chance.Intn(7) - 3, M: chance.Intn(4)}
		for range p.Start {
			q.A = append(q.A, chance.Intn(5)-2)
		}
		kinds, ok, e := Answers(p, q)
		if e != api.OK {
			t.Errorf("Answers of %v, %v: %d", p, q, e)
		}
		if !ok {
			c, f := Crowd(p, kinds)
			d, does, _ := Decides(p, c)
			is, g := True(q, kinds)
			if f+g != api.OK || does && (d == 1) == is {
				t.Errorf("Answers of %v, %v: %v", p, q, kinds)
			}
		}
	}
	yes := Protocol{1, []int{1}, []int{0, 0}, nil}
	check("yes", yes, 2, Question{[]int{0, 0}, 0, 0})
	late := Protocol{2, []int{1, 0}, []int{0, 1}, [][4]int{{0, 1, 0, 0}}}
	if k, ok, _ := Answers(late, Question{[]int{0, 0}, 0, 0}); ok || k[0] != 0 {
		t.Errorf("Answers of late: %v, %t", k, ok)
	}
}

func TestKept(t *testing.T) {
	for _, x := range []struct {
		p       Protocol
		weights []int
		m       int
		want    bool
	}{
		{pairs, []int{1, 1}, 0, true}, {pairs, []int{1, 2}, 0, false}, {pairs, []int{1, 2}, 2, true}, {pairs, []int{1, 2}, 1, true}, {pairs, []int{-1000, 1000}, 1000, true},
		{pairs, []int{5, -1}, 4, true}, {pairs, []int{5, -1}, 5, false}, {still, []int{7}, 0, true},
		{Majority(), []int{1, -1, 0, 0}, 0, true}, {Majority(), []int{1, -1, 1, 0}, 0, false}, {Majority(), []int{3, 2, 2, 2}, 0, false},
	} {
		if is, e := Kept(x.p, x.weights, x.m); is != x.want || e != api.OK {
			t.Errorf("Kept of %v, %v, %d: %t", x.p, x.weights, x.m, is)
		}
	}
	chance := rand.New(rand.NewSource(15))
	for _, p := range protocols() {
		weights := make([]int, p.States)
		for range 20 {
			for i := range weights {
				weights[i] = chance.Intn(5) - 2
			}
			for m := range 5 {
				want := true
				for _, r := range p.Rules {
					more := weights[r[0]] + weights[r[1]] - weights[r[2]] - weights[r[3]]
					want = want && (more == 0 || m > 0 && more%m == 0)
				}
				if is, e := Kept(p, weights, m); is != want || e != api.OK {
					t.Errorf("Kept of %v, %v, %d: %t", p, weights, m, is)
				}
			}
		}
		ones := slices.Repeat([]int{1}, p.States)
		if is, e := Kept(p, ones, 0); !is || e != api.OK {
			t.Errorf("Kept of ones by %v: %t", p, is)
		}
	}
}

// rankOf reduces rows modulo a great prime number.
func rankOf(rows [][]int, columns int) int {
	const prime = 1000003
	power := func(a, k int) int {
		out := 1
		for ; k > 0; k /= 2 {
			if k%2 == 1 {
				out = out * a % prime
			}
			a = a * a % prime
		}
		return out
	}
	done := 0
	for column := range columns {
		at := slices.IndexFunc(rows[done:], func(r []int) bool { return r[column] != 0 })
		if at < 0 {
			continue
		}
		rows[done], rows[done+at] = rows[done+at], rows[done]
		inverse := power(rows[done][column], prime-2)
		for i := done + 1; i < len(rows); i++ {
			times := rows[i][column] * inverse % prime
			for k := range rows[i] {
				rows[i][k] = ((rows[i][k]-times*rows[done][k])%prime + prime) % prime
			}
		}
		if done++; done == len(rows) {
			break
		}
	}
	return done
}

// rows returns what the rules change, modulo a great prime number.
func rows(p Protocol, more ...[]int) [][]int {
	var out [][]int
	for _, r := range p.Rules {
		row := make([]int, p.States)
		row[r[0]]--
		row[r[1]]--
		row[r[2]]++
		row[r[3]]++
		out = append(out, row)
	}
	for _, row := range more {
		out = append(out, slices.Clone(row))
	}
	for _, row := range out {
		for i := range row {
			row[i] = (row[i] + 1000003) % 1000003
		}
	}
	return out
}

func TestWeighsAndForbids(t *testing.T) {
	chance := rand.New(rand.NewSource(16))
	yes, no := 0, 0
	for _, p := range protocols() {
		rank := rankOf(rows(p), p.States)
		if n, e := Weighs(p); n != p.States-rank || e != api.OK {
			t.Errorf("Weighs of %v: %d, want %d", p, n, p.States-rank)
		}
		for range 20 {
			from, to := someCrowd(chance, p, 9), someCrowd(chance, p, 9)
			difference := make([]int, p.States)
			for i := range difference {
				difference[i] = from[i] - to[i]
			}
			want := rankOf(rows(p, difference), p.States) > rank
			weights, ok, e := Forbids(p, from, to)
			if ok != want || e != api.OK || !ok && weights != nil {
				t.Errorf("Forbids of %v, %v, %v: %v, %t, want %t", p, from, to, weights, ok, want)
			}
			if !ok {
				no++
				continue
			}
			yes++
			kept, e := Kept(p, weights, 0)
			weight := 0
			for i := range weights {
				weight += weights[i] * difference[i]
			}
			if !kept || weight == 0 || e != api.OK {
				t.Errorf("Forbids of %v, %v, %v: %v", p, from, to, weights)
			}
		}
	}
	if yes == 0 || no == 0 {
		t.Errorf("what was tried: %d, %d", yes, no)
	}
	if n, e := Weighs(Protocol{5, make([]int, 5), []int{0}, nil}); n != 5 || e != api.OK {
		t.Errorf("Weighs without rules: %d", n)
	}
	if weights, ok, e := Forbids(pairs, []int{1, 1}, []int{2, 1}); fmt.Sprint(weights) != "[1 1]" && fmt.Sprint(weights) != "[-1 -1]" || !ok || e != api.OK {
		t.Errorf("Forbids of two sums: %v", weights)
	}
}

func TestGreatestWeights(t *testing.T) {
	// twice one state is twice the next but one less: the weights grow as fast as rules let them
	p := Protocol{5, make([]int, 5), []int{0}, [][4]int{{0, 0, 1, 2}, {1, 1, 2, 3}, {2, 2, 3, 4}}}
	for a := range 5 {
		for b := range 5 {
			from, to := []int{1, 1, 1, 1, 1}, []int{1, 1, 1, 1, 1}
			from[a]++
			to[b]++
			weights, ok, e := Forbids(p, from, to)
			kept, f := Kept(p, weights, 0)
			if ok != (a != b) || e != api.OK || ok && (!kept || f != api.OK) {
				t.Errorf("Forbids of %d, %d: %v", a, b, weights)
			}
		}
	}
}

func TestMemory(t *testing.T) {
	p := Protocol{2, []int{0, 1}, []int{0}, [][4]int{{0, 0, 1, 1}}}
	crowd := []int{3, 1, 9}[:2]
	c, _, _ := Meet(p, crowd, nil)
	c[0] = 8
	d, _ := Crowd(p, crowd[:1])
	d[0] = 8
	if !reflect.DeepEqual(p, pairs) || !slices.Equal(crowd[:3], []int{3, 1, 9}) {
		t.Errorf("arguments have changed: %v, %v", p, crowd)
	}
	m := Majority()
	m.Rules[0], m.Out[0], m.Start[0] = [4]int{}, 7, 7
	if reflect.DeepEqual(m, Majority()) {
		t.Error("results share memory")
	}
}
