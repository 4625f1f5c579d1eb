package net

import (
	"fmt"
	"math"
	"math/rand"
	"reflect"
	"slices"
	"testing"

	"tosher/api"
)

type example struct {
	n     int
	edges [][2]int
}

var (
	triangle = example{3, [][2]int{{0, 1}, {0, 2}, {1, 2}}}
	single   = example{2, [][2]int{{0, 1}}}
	loop     = example{1, [][2]int{{0, 0}}}
	mixed    = example{4, [][2]int{{0, 0}, {0, 1}, {0, 1}, {0, 2}, {1, 2}, {2, 3}}}
)

// examples are nets of all sizes, some by chance.
func examples() []example {
	out := []example{
		triangle, single, loop, mixed,
		{1, nil}, {3, nil}, {6, nil},
		{1, [][2]int{{0, 0}, {0, 0}, {0, 0}}},
		{4, [][2]int{{0, 1}, {0, 2}, {0, 3}, {1, 2}, {1, 3}, {2, 3}}},
		{5, [][2]int{{0, 1}, {0, 1}, {2, 3}, {2, 4}, {3, 4}}},
		{6, [][2]int{{0, 3}, {0, 4}, {0, 5}, {1, 3}, {1, 4}, {1, 5}, {2, 3}, {2, 4}, {2, 5}}},
	}
	chance := rand.New(rand.NewSource(1))
	for range 30 {
		x := example{n: 1 + chance.Intn(6)}
		for range chance.Intn(8) {
			a, b := chance.Intn(x.n), chance.Intn(x.n)
			x.edges = append(x.edges, [2]int{min(a, b), max(a, b)})
		}
		slices.SortFunc(x.edges, func(a, b [2]int) int { return slices.Compare(a[:], b[:]) })
		out = append(out, x)
	}
	return out
}

// lists calls f with all lists of integers from low to high.
func lists(length, low, high int, f func([]int)) {
	list := make([]int, length)
	var fill func(int)
	fill = func(i int) {
		if i == length {
			f(list)
			return
		}
		for v := low; v <= high; v++ {
			list[i] = v
			fill(i + 1)
		}
	}
	fill(0)
}

func isProper(x example, colours []int) bool {
	return !slices.ContainsFunc(x.edges, func(e [2]int) bool { return colours[e[0]] == colours[e[1]] })
}

func flowsEvenly(x example, m int, flow []int) bool {
	left := make([]int, x.n)
	for e, amount := range flow {
		left[x.edges[e][0]] -= amount
		left[x.edges[e][1]] += amount
	}
	return !slices.ContainsFunc(left, func(l int) bool { return l%m != 0 })
}

func pow(x int64, n int) int64 {
	out := int64(1)
	for range n {
		out *= x
	}
	return out
}

func sign(n int) int64 {
	return pow(-1, n)
}

func full(x example) int {
	return 1<<len(x.edges) - 1
}

func TestCheck(t *testing.T) {
	long := make([][2]int, 9)
	for _, c := range []struct {
		n     int
		edges [][2]int
		want  api.Errno
	}{
		{0, nil, api.ErrArg}, {7, nil, api.ErrArg}, {-1, nil, api.ErrArg}, {math.MinInt, nil, api.ErrArg}, {math.MaxInt, nil, api.ErrArg},
		{0, [][2]int{{5, 1}}, api.ErrArg},
		{1, nil, api.OK}, {6, [][2]int{{4, 5}, {5, 5}}, api.OK}, {1, long, api.OK},
		{1, append(long, [2]int{}), api.ErrNet},
		{2, [][2]int{{1, 0}}, api.ErrNet}, {2, [][2]int{{0, 2}}, api.ErrNet}, {2, [][2]int{{-1, 0}}, api.ErrNet},
		{2, [][2]int{{math.MinInt, math.MaxInt}}, api.ErrNet},
		{3, [][2]int{{0, 2}, {0, 1}}, api.ErrNet}, {3, [][2]int{{1, 1}, {0, 2}}, api.ErrNet},
		{3, [][2]int{{0, 1}, {0, 1}, {1, 1}, {1, 1}}, api.OK},
	} {
		if e := Check(c.n, c.edges); e != c.want {
			t.Errorf("Check(%d, %v): %d", c.n, c.edges, e)
		}
	}
}

// results calls all functions that take a net, with the other arguments right or wrong.
func results(x example, wrong bool) map[string][]any {
	set, q, at, edge, node := 0, 1, int64(1), 0, 0
	if wrong {
		set, q, at, edge, node = -1, 11, 11, len(x.edges), x.n
	}
	all := map[string][]any{}
	keep := func(name string, values ...any) { all[name] = values }
	keep2 := func(name string) func(a any, e api.Errno) {
		return func(a any, e api.Errno) { keep(name, a, e) }
	}
	keep3 := func(name string) func(a, b any, e api.Errno) {
		return func(a, b any, e api.Errno) { keep(name, a, b, e) }
	}
	r, e := Rank(x.n, x.edges, set)
	keep2("Rank")(r, e)
	v, e := Value(x.n, x.edges, at, 0)
	keep2("Value x")(v, e)
	v, e = Value(x.n, x.edges, 0, -at)
	keep2("Value y")(v, e)
	l, ok, e := Colour(x.n, x.edges, q)
	keep3("Colour")(l, ok, e)
	l, ok, e = Flow(x.n, x.edges, q)
	keep3("Flow")(l, ok, e)
	ok, e = IsFlow(x.n, x.edges, q, nil)
	keep2("IsFlow")(ok, e)
	ok, e = Acyclic(x.n, x.edges, set)
	keep2("Acyclic")(ok, e)
	ok, e = Round(x.n, x.edges, set)
	keep2("Round")(ok, e)
	c, e := CountSource(x.n, x.edges, node)
	keep2("CountSource")(c, e)
	a, b, e := Active(x.n, x.edges, set)
	keep3("Active")(a, b, e)
	n, es, e := Without(x.n, x.edges, edge)
	keep3("Without")(n, es, e)
	n, es, e = Joined(x.n, x.edges, edge)
	keep3("Joined")(n, es, e)
	return all
}

func wantError(t *testing.T, all map[string][]any, want api.Errno) {
	t.Helper()
	for name, values := range all {
		for i, v := range values {
			if i == len(values)-1 && v != want || i < len(values)-1 && !reflect.ValueOf(v).IsZero() {
				t.Errorf("%s: %v, want the error %d", name, values, want)
			}
		}
	}
}

func TestErrors(t *testing.T) {
	for _, wrong := range []bool{false, true} {
		wantError(t, results(example{0, nil}, wrong), api.ErrArg)
		wantError(t, results(example{2, [][2]int{{1, 0}}}, wrong), api.ErrNet)
	}
	for _, x := range examples() {
		wantError(t, results(x, true), api.ErrArg)
	}
	bad := example{2, [][2]int{{1, 0}}}
	l, e := Colours(bad.n, bad.edges)
	f, h := Flows(bad.n, bad.edges)
	g, i := Great(bad.n, bad.edges)
	tr, j := Trees(bad.n, bad.edges)
	a, k := CountAcyclic(bad.n, bad.edges)
	r, m := CountRound(bad.n, bad.edges)
	for _, x := range []api.Errno{e, h, i, j, k, m} {
		if x != api.ErrNet {
			t.Errorf("error %d", x)
		}
	}
	if l != nil || f != nil || g != nil || tr != nil || a != 0 || r != 0 {
		t.Error("results next to an error")
	}
	for _, set := range []int{8, 1 << 9, math.MinInt, math.MaxInt} {
		if _, e := Rank(3, triangle.edges, set); e != api.ErrArg {
			t.Errorf("Rank of %d: %d", set, e)
		}
		if _, e := Acyclic(3, triangle.edges, set); e != api.ErrArg {
			t.Errorf("Acyclic of %d: %d", set, e)
		}
	}
	for _, m := range []int{0, -1, 11, math.MinInt} {
		if _, _, e := Flow(1, nil, m); e != api.ErrArg {
			t.Errorf("Flow by %d: %d", m, e)
		}
		if _, e := IsFlow(1, nil, m, nil); e != api.ErrArg {
			t.Errorf("IsFlow by %d: %d", m, e)
		}
	}
	if _, _, e := Colour(1, nil, -1); e != api.ErrArg {
		t.Errorf("Colour by -1: %d", e)
	}
	if _, _, e := Joined(3, triangle.edges, -1); e != api.ErrArg {
		t.Errorf("Joined at -1: %d", e)
	}
	if _, e := Value(1, nil, math.MinInt64, 0); e != api.ErrArg {
		t.Errorf("Value: %d", e)
	}
	if _, e := CountSource(1, nil, -1); e != api.ErrArg {
		t.Errorf("CountSource: %d", e)
	}
}

func TestRank(t *testing.T) {
	for set, want := range map[int]int{0: 0, 1: 0, 2: 1, 4: 1, 6: 1, 62: 3, 63: 3, 24: 2, 32: 1} {
		if r, e := Rank(mixed.n, mixed.edges, set); r != want || e != api.OK {
			t.Errorf("Rank of %d: %d, %d", set, r, e)
		}
	}
}

func TestPolynomialsOfExamples(t *testing.T) {
	for _, c := range []struct {
		x                     example
		colours, flows, great string
	}{
		{triangle, "[0 2 -3 1]", "[-1 1]", "[[0 1] [1] [1]]"},
		{single, "[0 -1 1]", "[]", "[[] [1]]"},
		{loop, "[]", "[-1 1]", "[[0 1]]"},
		{example{3, nil}, "[0 0 0 1]", "[1]", "[[1]]"},
		{example{2, [][2]int{{0, 1}, {0, 1}, {0, 1}}}, "[0 -1 1]", "[2 -3 1]", "[[0 1 1] [1]]"},
	} {
		l, e := Colours(c.x.n, c.x.edges)
		f, h := Flows(c.x.n, c.x.edges)
		g, i := Great(c.x.n, c.x.edges)
		if fmt.Sprint(l) != c.colours || fmt.Sprint(f) != c.flows || fmt.Sprint(g) != c.great || e+h+i != api.OK {
			t.Errorf("%v: %v, %v, %v", c.x, l, f, g)
		}
	}
}

func TestColoursAreCounted(t *testing.T) {
	for _, x := range examples() {
		polynomial, e := Colours(x.n, x.edges)
		if e != api.OK || len(polynomial) > 0 && polynomial[len(polynomial)-1] == 0 {
			t.Errorf("Colours of %v: %v, %d", x, polynomial, e)
		}
		for q := range 5 {
			want := int64(0)
			lists(x.n, 0, q-1, func(colours []int) {
				if isProper(x, colours) {
					want++
				}
			})
			if got := value(polynomial, int64(q)); got != want {
				t.Errorf("Colours of %v at %d: %d, want %d", x, q, got, want)
			}
		}
		for q := range 11 {
			l, ok, e := Colour(x.n, x.edges, q)
			if ok != (value(polynomial, int64(q)) > 0) || e != api.OK || !ok && l != nil {
				t.Errorf("Colour of %v by %d: %v, %t", x, q, l, ok)
			}
			if ok && (len(l) != x.n || !isProper(x, l) || slices.Min(l) < 0 || slices.Max(l) >= q) {
				t.Errorf("Colour of %v by %d: %v", x, q, l)
			}
		}
	}
	if l, ok, e := Colour(2, single.edges, 1); ok || l != nil || e != api.OK {
		t.Errorf("Colour by 1: %v, %t, %d", l, ok, e)
	}
}

func TestFlowsAreCounted(t *testing.T) {
	for _, x := range examples() {
		polynomial, e := Flows(x.n, x.edges)
		if e != api.OK || len(polynomial) > 0 && polynomial[len(polynomial)-1] == 0 {
			t.Errorf("Flows of %v: %v, %d", x, polynomial, e)
		}
		for m := 1; m <= 4; m++ {
			want := int64(0)
			lists(len(x.edges), 1, m-1, func(flow []int) {
				even := flowsEvenly(x, m, flow)
				if is, e := IsFlow(x.n, x.edges, m, flow); is != even || e != api.OK {
					t.Fatalf("IsFlow of %v, %d, %v: %t, %d", x, m, flow, is, e)
				}
				if even {
					want++
				}
			})
			if got := value(polynomial, int64(m)); got != want {
				t.Errorf("Flows of %v at %d: %d, want %d", x, m, got, want)
			}
		}
		for m := 1; m <= 10; m++ {
			f, ok, e := Flow(x.n, x.edges, m)
			if ok != (value(polynomial, int64(m)) > 0) || e != api.OK || !ok && f != nil {
				t.Errorf("Flow of %v by %d: %v, %t", x, m, f, ok)
			}
			if ok && (len(f) != len(x.edges) || !flowsEvenly(x, m, f) || len(f) > 0 && (slices.Min(f) < 1 || slices.Max(f) >= m)) {
				t.Errorf("Flow of %v by %d: %v", x, m, f)
			}
		}
	}
}

func TestIsFlow(t *testing.T) {
	for _, f := range [][]int{nil, {1, 2}, {1, 2, 0}, {0, 0, 0}, {3, 3, 3}, {1, 2, 1, 1}, {4, 2, 1}, {1, -1, 1}, {math.MinInt, 2, 1}, {1, 2, math.MaxInt}} {
		if is, e := IsFlow(3, triangle.edges, 3, f); is || e != api.OK {
			t.Errorf("IsFlow of %v: %t, %d", f, is, e)
		}
	}
	if is, e := IsFlow(3, triangle.edges, 3, []int{1, 2, 1}); !is || e != api.OK {
		t.Errorf("IsFlow: %t, %d", is, e)
	}
	if is, e := IsFlow(2, nil, 1, nil); !is || e != api.OK {
		t.Errorf("IsFlow without edges: %t, %d", is, e)
	}
	bridge := [][2]int{{0, 1}, {0, 1}, {0, 1}, {0, 1}, {0, 1}, {0, 1}, {0, 1}, {0, 1}, {1, 2}}
	if f, ok, e := Flow(3, bridge, 10); ok || f != nil || e != api.OK {
		t.Errorf("Flow of a bridge: %v, %t, %d", f, ok, e)
	}
}

// hasRing follows the directions from each node until it comes to it again.
func hasRing(x example, directions, edge int) bool {
	from := func(e int) int { return x.edges[e][directions>>e&1] }
	to := func(e int) int { return x.edges[e][1-directions>>e&1] }
	met := map[int]bool{to(edge): true}
	for range x.n {
		for e := range x.edges {
			if met[from(e)] {
				met[to(e)] = true
			}
		}
	}
	return met[from(edge)]
}

func TestDirections(t *testing.T) {
	for _, x := range examples() {
		acyclic, round := 0, 0
		source := make([]int, x.n)
		for d := range full(x) + 1 {
			rings, entered := 0, map[int]bool{}
			for e := range x.edges {
				if hasRing(x, d, e) {
					rings++
				}
				entered[x.edges[e][1-d>>e&1]] = true
			}
			is, e := Acyclic(x.n, x.edges, d)
			too, h := Round(x.n, x.edges, d)
			if is != (rings == 0) || too != (rings == len(x.edges)) || e+h != api.OK {
				t.Errorf("%v, %d: %t, %t", x, d, is, too)
			}
			if is {
				acyclic++
			}
			if too {
				round++
			}
			for node := range source {
				if is && len(entered) == x.n-1 && !entered[node] {
					source[node]++
				}
			}
		}
		a, e := CountAcyclic(x.n, x.edges)
		r, h := CountRound(x.n, x.edges)
		if a != acyclic || r != round || e+h != api.OK {
			t.Errorf("%v: %d, %d, want %d, %d", x, a, r, acyclic, round)
		}
		for node, want := range source {
			if n, e := CountSource(x.n, x.edges, node); n != want || e != api.OK {
				t.Errorf("CountSource of %v at %d: %d, want %d", x, node, n, want)
			}
		}
	}
	a, _ := CountAcyclic(3, triangle.edges)
	r, _ := CountRound(3, triangle.edges)
	if a != 6 || r != 2 {
		t.Errorf("the triangle: %d, %d", a, r)
	}
}

func TestTrees(t *testing.T) {
	for _, x := range examples() {
		rank, _ := Rank(x.n, x.edges, full(x))
		var want []int
		isTree := map[int]bool{}
		for set := range full(x) + 1 {
			r, _ := Rank(x.n, x.edges, set)
			if isTree[set] = r == rank && size(set) == rank; isTree[set] {
				want = append(want, set)
			}
		}
		trees, e := Trees(x.n, x.edges)
		if !slices.Equal(trees, want) || e != api.OK {
			t.Errorf("Trees of %v: %v, want %v", x, trees, want)
		}
		for set := range full(x) + 1 {
			in, outside, e := Active(x.n, x.edges, set)
			if !isTree[set] {
				if in != 0 || outside != 0 || e != api.ErrArg {
					t.Errorf("Active of %v in %d: %d, %d, %d", x, set, in, outside, e)
				}
				continue
			}
			wantIn, wantOutside := 0, 0
			for edge := range x.edges {
				least := edge
				for other := range edge {
					if set>>edge&1 != set>>other&1 && isTree[set^1<<edge^1<<other] {
						least = min(least, other)
					}
				}
				if least == edge && set>>edge&1 == 1 {
					wantIn++
				} else if least == edge {
					wantOutside++
				}
			}
			if in != wantIn || outside != wantOutside || e != api.OK {
				t.Errorf("Active of %v in %d: %d, %d, want %d, %d", x, set, in, outside, wantIn, wantOutside)
			}
		}
	}
}

func TestGreatIsTheSumOverSets(t *testing.T) {
	for _, x := range examples() {
		rank, _ := Rank(x.n, x.edges, full(x))
		for a := int64(-10); a <= 10; a += 4 {
			for b := int64(-10); b <= 10; b += 5 {
				want := int64(0)
				for set := range full(x) + 1 {
					r, _ := Rank(x.n, x.edges, set)
					want += pow(a-1, rank-r) * pow(b-1, size(set)-r)
				}
				if v, e := Value(x.n, x.edges, a, b); v != want || e != api.OK {
					t.Errorf("Value of %v at %d, %d: %d, want %d", x, a, b, v, want)
				}
			}
		}
		great, e := Great(x.n, x.edges)
		if e != api.OK || len(great) == 0 || len(great[len(great)-1]) == 0 {
			t.Errorf("Great of %v: %v, %d", x, great, e)
		}
		for _, l := range great {
			if len(l) > 0 && l[len(l)-1] == 0 {
				t.Errorf("Great of %v: %v", x, great)
			}
		}
	}
}

func TestConsequences(t *testing.T) {
	for _, x := range examples() {
		rank, _ := Rank(x.n, x.edges, full(x))
		m := len(x.edges)
		at := func(a, b int64) int64 {
			v, _ := Value(x.n, x.edges, a, b)
			return v
		}
		colours, _ := Colours(x.n, x.edges)
		flows, _ := Flows(x.n, x.edges)
		for q := int64(0); q <= 10; q++ {
			if value(colours, q) != sign(rank)*pow(q, x.n-rank)*at(1-q, 0) || q > 0 && value(flows, q) != sign(m-rank)*at(0, 1-q) {
				t.Errorf("P1.7 of %v at %d", x, q)
			}
		}
		trees, _ := Trees(x.n, x.edges)
		acyclic, _ := CountAcyclic(x.n, x.edges)
		round, _ := CountRound(x.n, x.edges)
		if at(1, 1) != int64(len(trees)) || at(2, 2) != 1<<m || at(2, 0) != int64(acyclic) || at(0, 2) != int64(round) {
			t.Errorf("P1.7, P1.8 of %v", x)
		}
		for node := range x.n {
			if n, _ := CountSource(x.n, x.edges, node); rank == x.n-1 && int64(n) != at(1, 0) {
				t.Errorf("P1.8 of %v at %d: %d", x, node, n)
			}
		}
		sum := int64(0)
		for _, tree := range trees {
			in, outside, _ := Active(x.n, x.edges, tree)
			sum += pow(3, in) * pow(5, outside)
		}
		if sum != at(3, 5) {
			t.Errorf("P1.9 of %v: %d", x, sum)
		}
	}
}

func TestSmallerNets(t *testing.T) {
	for _, x := range examples() {
		whole, _ := Value(x.n, x.edges, 3, 5)
		rank, _ := Rank(x.n, x.edges, full(x))
		for i, ends := range x.edges {
			n, less, e := Without(x.n, x.edges, i)
			k, joined, h := Joined(x.n, x.edges, i)
			if e+h != api.OK || n != x.n || len(less) != len(x.edges)-1 || len(joined) != len(less) || Check(n, less) != api.OK || Check(k, joined) != api.OK {
				t.Fatalf("%v at %d: %v, %v", x, i, less, joined)
			}
			a, _ := Value(n, less, 3, 5)
			b, _ := Value(k, joined, 3, 5)
			r, _ := Rank(n, less, full(example{n, less}))
			switch {
			case ends[0] == ends[1]:
				if k != n || !slices.Equal(less, joined) || whole != 5*a {
					t.Errorf("the loop %d of %v: %d, %v", i, x, k, joined)
				}
			case r < rank:
				if k != n-1 || whole != 3*b {
					t.Errorf("the bridge %d of %v", i, x)
				}
			case k != n-1 || whole != a+b:
				t.Errorf("the edge %d of %v", i, x)
			}
		}
	}
	if n, l, e := Joined(mixed.n, mixed.edges, 1); n != 3 || fmt.Sprint(l) != "[[0 0] [0 0] [0 1] [0 1] [1 2]]" || e != api.OK {
		t.Errorf("Joined: %d, %v, %d", n, l, e)
	}
	if n, l, e := Joined(4, [][2]int{{0, 3}, {1, 2}, {1, 3}}, 2); n != 3 || fmt.Sprint(l) != "[[0 1] [1 2]]" || e != api.OK {
		t.Errorf("Joined: %d, %v, %d", n, l, e)
	}
	if n, l, e := Without(mixed.n, mixed.edges, 1); n != 4 || fmt.Sprint(l) != "[[0 0] [0 1] [0 2] [1 2] [2 3]]" || e != api.OK {
		t.Errorf("Without: %d, %v, %d", n, l, e)
	}
}

func TestMemory(t *testing.T) {
	back := slices.Concat(mixed.edges, [][2]int{{9, 9}})
	edges := back[:len(mixed.edges)]
	_, less, _ := Without(4, edges, 5)
	_, joined, _ := Joined(4, edges, 0)
	for i := range less {
		less[i], joined[i] = [2]int{7, 7}, [2]int{8, 8}
	}
	Joined(4, edges, 1)
	Colour(4, edges, 3)
	Flow(4, edges, 3)
	if !slices.Equal(back[:6], mixed.edges) || back[6] != [2]int{9, 9} {
		t.Errorf("the edges have changed: %v", back)
	}
	a, _ := Great(4, edges)
	b, _ := Great(4, edges)
	a[1][0] = 100
	if reflect.DeepEqual(a, b) {
		t.Error("two results share memory")
	}
}
