package search

import (
	"fmt"
	"math"
	"math/rand"
	"reflect"
	"slices"
	"testing"

	"tosher/api"
)

func none(t *testing.T, name string, want, e api.Errno, values ...any) {
	t.Helper()
	if e != want {
		t.Errorf("%s: the error %d, want %d", name, e, want)
	}
	for _, v := range values {
		if !reflect.ValueOf(v).IsZero() {
			t.Errorf("%s: %v next to an error", name, v)
		}
	}
}

// plansOf returns all plans for the pieces from a to b.
func plansOf(a, b int) [][]int {
	if a == b {
		return [][]int{nil}
	}
	var out [][]int
	for i := a; i < b; i++ {
		for _, before := range plansOf(a, i) {
			for _, behind := range plansOf(i+1, b) {
				out = append(out, slices.Concat([]int{i}, before, behind))
			}
		}
	}
	return out
}

// opened follows a plan that begins at index 0 for the pieces from a to b, until only the piece is left.
func opened(plan []int, a, b, piece int) []int {
	if a == b {
		return nil
	}
	i := plan[0]
	if piece <= i {
		return append([]int{i}, opened(plan[1:], a, i, piece)...)
	}
	return append([]int{i}, opened(plan[1+i-a:], i+1, b, piece)...)
}

func someNumbers(chance *rand.Rand, many, low, high int) []int {
	out := make([]int, many)
	for i := range out {
		out[i] = low + chance.Intn(high-low+1)
	}
	return out
}

func TestCheck(t *testing.T) {
	for _, x := range []struct {
		costs []int
		want  api.Errno
	}{
		{nil, api.OK}, {slices.Repeat([]int{1000}, 12), api.OK}, {slices.Repeat([]int{1}, 13), api.ErrPipe}, {[]int{0}, api.ErrPipe}, {[]int{1, 1001}, api.ErrPipe},
		{[]int{-1}, api.ErrPipe}, {[]int{math.MaxInt}, api.ErrPipe}, {[]int{1, math.MinInt}, api.ErrPipe},
	} {
		if e := Check(x.costs); e != x.want {
			t.Errorf("Check of %v: %d", x.costs, e)
		}
		if x.want == api.OK {
			continue
		}
		is, e := IsPlan(x.costs, nil)
		none(t, "IsPlan", api.ErrPipe, e, is)
		l, e := Prices(x.costs, nil)
		none(t, "Prices", api.ErrPipe, e, l)
		n, l, e := Worst(x.costs)
		none(t, "Worst", api.ErrPipe, e, n, l)
		n, l, e = Weighed(x.costs, nil)
		none(t, "Weighed", api.ErrPipe, e, n, l)
		n, e = PriceOf(x.costs, nil, nil)
		none(t, "PriceOf", api.ErrPipe, e, n)
		l, e = Answer(x.costs, nil, -1)
		none(t, "Answer", api.ErrPipe, e, l)
	}
}

func TestErrors(t *testing.T) {
	costs, good := []int{5, 1}, []int{1, 1, 1}
	for _, weights := range [][]int{nil, {1, 1}, {1, 1, 1, 1}, {0, 0, 0}, {1, 1, 1001}, {-1, 1, 1}, {math.MaxInt, 1, 1}, {1, math.MinInt, 1}} {
		n, l, e := Weighed(costs, weights)
		none(t, "Weighed", api.ErrArg, e, n, l)
		n, e = PriceOf(costs, weights, []int{0, 1})
		none(t, "PriceOf", api.ErrArg, e, n)
	}
	for _, plan := range [][]int{nil, {0}, {0, 0}, {1, 1}, {0, 1, 1}, {2, 0}, {-1, 0}, {0, 2}, {math.MaxInt, 0}, {math.MinInt, 0}} {
		if is, e := IsPlan(costs, plan); is || e != api.OK {
			t.Errorf("IsPlan of %v: %t", plan, is)
		}
		l, e := Prices(costs, plan)
		none(t, "Prices", api.ErrArg, e, l)
		n, e := PriceOf(costs, good, plan)
		none(t, "PriceOf", api.ErrArg, e, n)
		l, e = Answer(costs, plan, 0)
		none(t, "Answer", api.ErrArg, e, l)
	}
	for _, piece := range []int{-1, 3, math.MinInt, math.MaxInt} {
		l, e := Answer(costs, []int{0, 1}, piece)
		none(t, "Answer", api.ErrArg, e, l)
	}
	for _, n := range []int{-1, 31, math.MinInt, math.MaxInt} {
		c, e := CountPlans(n)
		none(t, "CountPlans", api.ErrArg, e, c)
	}
}

func TestPlans(t *testing.T) {
	chance := rand.New(rand.NewSource(21))
	for n := range 7 {
		all := plansOf(0, n)
		if c, e := CountPlans(n); c != int64(len(all)) || e != api.OK {
			t.Errorf("CountPlans of %d: %d", n, c)
		}
		for range 4 {
			costs, weights := someNumbers(chance, n, 1, 9), someNumbers(chance, n+1, 0, 9)
			weights[chance.Intn(n+1)]++
			leastWorst, leastWeighed := math.MaxInt, math.MaxInt
			for _, plan := range all {
				is, e := IsPlan(costs, plan)
				got, f := Prices(costs, plan)
				if !is || len(got) != n+1 || e+f != api.OK {
					t.Fatalf("%v: %t, %v", plan, is, got)
				}
				weighed := 0
				for piece, price := range got {
					gates, e := Answer(costs, plan, piece)
					want := opened(plan, 0, n, piece)
					paid := 0
					for _, gate := range want {
						paid += costs[gate]
					}
					if !slices.Equal(gates, want) || price != paid || e != api.OK {
						t.Errorf("Answer of %v, %v, %d: %v, %d", costs, plan, piece, gates, price)
					}
					weighed += weights[piece] * price
				}
				if p, e := PriceOf(costs, weights, plan); p != weighed || e != api.OK {
					t.Errorf("PriceOf of %v, %v, %v: %d", costs, weights, plan, p)
				}
				leastWorst, leastWeighed = min(leastWorst, slices.Max(got)), min(leastWeighed, weighed)
			}
			price, plan, e := Worst(costs)
			got, f := Prices(costs, plan)
			if price != leastWorst || slices.Max(got) != price || e+f != api.OK {
				t.Errorf("Worst of %v: %d, %v", costs, price, plan)
			}
			price, plan, e = Weighed(costs, weights)
			paid, f := PriceOf(costs, weights, plan)
			if price != leastWeighed || paid != price || e+f != api.OK {
				t.Errorf("Weighed of %v, %v: %d, %v", costs, weights, price, plan)
			}
		}
		if n == 0 {
			continue
		}
		isPlanOf := map[string]bool{}
		for _, plan := range all {
			isPlanOf[fmt.Sprint(plan)] = true
		}
		for range 300 {
			list := someNumbers(chance, n, 0, n-1)
			if is, e := IsPlan(slices.Repeat([]int{1}, n), list); is != isPlanOf[fmt.Sprint(list)] || e != api.OK {
				t.Errorf("IsPlan of %v: %t", list, is)
			}
		}
	}
	if c, e := CountPlans(30); c != 3814986502092304 || e != api.OK {
		t.Errorf("CountPlans of 30: %d", c)
	}
}

func TestGreatPipes(t *testing.T) {
	for n := range 13 {
		price, plan, e := Worst(slices.Repeat([]int{1}, n))
		want := 0
		for 1<<want < n+1 {
			want++
		}
		if price != want || len(plan) != n || e != api.OK {
			t.Errorf("P8.5 of %d: %d, %v", n, price, plan)
		}
	}
	costs, weights := slices.Repeat([]int{1000}, 12), slices.Repeat([]int{1000}, 13)
	price, plan, e := Weighed(costs, weights)
	paid, f := PriceOf(costs, weights, plan)
	if price != 49*1000*1000 || paid != price || e+f != api.OK { // three pieces at 3, ten at 4
		t.Errorf("Weighed of twelve: %d, %d", price, paid)
	}
}

func TestExamples(t *testing.T) {
	price, plan, e := Worst([]int{1, 1, 1})
	if price != 2 || fmt.Sprint(plan) != "[1 0 2]" || e != api.OK {
		t.Errorf("Worst: %d, %v", price, plan)
	}
	if p, _ := Prices([]int{1, 1, 1}, plan); fmt.Sprint(p) != "[2 2 2 2]" {
		t.Errorf("Prices: %v", p)
	}
	if price, plan, _ := Worst([]int{5, 1}); price != 6 {
		t.Errorf("Worst: %d, %v", price, plan)
	}
	if p, _ := Prices([]int{5, 1}, []int{0, 1}); fmt.Sprint(p) != "[5 6 6]" {
		t.Errorf("Prices: %v", p)
	}
	if p, _ := Prices([]int{5, 1}, []int{1, 0}); fmt.Sprint(p) != "[6 6 1]" {
		t.Errorf("Prices: %v", p)
	}
	if price, plan, e := Worst(nil); price != 0 || len(plan) != 0 || e != api.OK {
		t.Errorf("Worst of nothing: %d, %v", price, plan)
	}
	if price, plan, e := Weighed(nil, []int{7}); price != 0 || len(plan) != 0 || e != api.OK {
		t.Errorf("Weighed of nothing: %d, %v", price, plan)
	}
	if l, e := Answer(nil, nil, 0); len(l) != 0 || e != api.OK {
		t.Errorf("Answer of nothing: %v", l)
	}
	if p, e := Prices(nil, nil); fmt.Sprint(p) != "[0]" || e != api.OK {
		t.Errorf("Prices of nothing: %v", p)
	}
}

func TestCheckTree(t *testing.T) {
	ten := make([][2]int, 9)
	for i := range ten {
		ten[i] = [2]int{i, i + 1}
	}
	for _, x := range []struct {
		n     int
		edges [][2]int
		want  api.Errno
	}{
		{0, nil, api.ErrArg}, {11, append(slices.Clone(ten), [2]int{9, 10}), api.ErrArg}, {-1, [][2]int{{5, 5}}, api.ErrArg}, {math.MinInt, nil, api.ErrArg}, {math.MaxInt, nil, api.ErrArg},
		{1, nil, api.OK}, {10, ten, api.OK}, {2, nil, api.ErrTree}, {1, [][2]int{{0, 0}}, api.ErrTree}, {2, [][2]int{{1, 0}}, api.ErrTree},
		{2, [][2]int{{0, 2}}, api.ErrTree}, {2, [][2]int{{-1, 1}}, api.ErrTree}, {3, [][2]int{{0, 1}, {0, 1}}, api.ErrTree}, {3, [][2]int{{0, 2}, {0, 1}}, api.ErrTree},
		{4, [][2]int{{0, 1}, {0, 2}, {1, 2}}, api.ErrTree}, {4, [][2]int{{0, 1}, {0, 2}, {0, 3}, {1, 2}}, api.ErrTree}, {2, [][2]int{{math.MinInt, math.MaxInt}}, api.ErrTree},
	} {
		none(t, fmt.Sprint("CheckTree of ", x.n, x.edges), x.want, CheckTree(x.n, x.edges))
		if x.want == api.OK {
			continue
		}
		l, e := Looks(x.n, x.edges)
		none(t, "Looks", x.want, e, l)
		m, e := Marks(x.n, x.edges)
		none(t, "Marks", x.want, e, m)
		is, e := AreMarks(x.n, x.edges, nil)
		none(t, "AreMarks", x.want, e, is)
		node, size, e := Middle(x.n, x.edges)
		none(t, "Middle", x.want, e, node, size)
	}
}

// trees are all with up to five nodes, and some with more.
func trees() map[int][][][2]int {
	out := map[int][][][2]int{}
	for n := 1; n <= 5; n++ {
		var all [][2]int
		for i := range n {
			for k := i + 1; k < n; k++ {
				all = append(all, [2]int{i, k})
			}
		}
		for set := range 1 << len(all) {
			var edges [][2]int
			for e, ends := range all {
				if set>>e&1 == 1 {
					edges = append(edges, ends)
				}
			}
			if CheckTree(n, edges) == api.OK {
				out[n] = append(out[n], edges)
			}
		}
	}
	chance := rand.New(rand.NewSource(22))
	for i := range 120 {
		n := 6 + i%5
		name := chance.Perm(n)
		var edges [][2]int
		for k := 1; k < n; k++ {
			a, b := name[k], name[chance.Intn(k)]
			if i%3 == 0 {
				b = name[k-1]
			}
			edges = append(edges, [2]int{min(a, b), max(a, b)})
		}
		slices.SortFunc(edges, func(a, b [2]int) int { return slices.Compare(a[:], b[:]) })
		out[n] = append(out[n], edges)
	}
	return out
}

// between returns the nodes on the way from one node to another one.
func between(n int, edges [][2]int, from, to int) []int {
	var walk func(at, before int) []int
	walk = func(at, before int) []int {
		if at == to {
			return []int{at}
		}
		for _, e := range edges {
			for i := range 2 {
				if e[i] == at && e[1-i] != before {
					if way := walk(e[1-i], at); way != nil {
						return append(way, at)
					}
				}
			}
		}
		return nil
	}
	return walk(from, -1)
}

func rightMarks(n int, edges [][2]int, marks []int) bool {
	for a := range n {
		for b := range a {
			if marks[a] != marks[b] {
				continue
			}
			greatest := 0
			for _, node := range between(n, edges, a, b) {
				greatest = max(greatest, marks[node])
			}
			if greatest == marks[a] {
				return false
			}
		}
	}
	return true
}

// leastLooks tries all nodes of a set, without what is known of others.
func leastLooks(n int, edges [][2]int, set []int) int {
	if len(set) == 1 {
		return 0
	}
	least := math.MaxInt
	for _, node := range set {
		most := 0
		for _, ends := range edges {
			for i := range 2 {
				next := ends[1-i]
				if ends[i] != node || !slices.Contains(set, next) {
					continue
				}
				var part []int
				for _, other := range set {
					if other != node && !slices.Contains(between(n, edges, next, other), node) {
						part = append(part, other)
					}
				}
				most = max(most, 1+leastLooks(n, edges, part))
			}
		}
		least = min(least, most)
	}
	return least
}

func TestTrees(t *testing.T) {
	for n, list := range trees() {
		for _, edges := range list {
			looks, e := Looks(n, edges)
			marks, f := Marks(n, edges)
			are, g := AreMarks(n, edges, marks)
			if len(marks) != n || !are || !rightMarks(n, edges, marks) || slices.Max(marks) != looks || slices.Min(marks) < 0 || e+f+g != api.OK || 1<<looks > n {
				t.Errorf("Marks of %v: %v, %d", edges, marks, looks)
			}
			nodes := make([]int, n)
			for i := range nodes {
				nodes[i] = i
			}
			if n <= 6 && looks != leastLooks(n, edges, nodes) {
				t.Errorf("Looks of %v: %d", edges, looks)
			}
			node, size, e := Middle(n, edges)
			greatest := make([]int, n)
			for i := range n {
				for j := range n {
					together := 0
					for k := range n {
						if j != i && k != i && !slices.Contains(between(n, edges, j, k), i) {
							together++
						}
					}
					greatest[i] = max(greatest[i], together)
				}
			}
			if size != slices.Min(greatest) || node != slices.Index(greatest, size) || size > n/2 || e != api.OK {
				t.Errorf("Middle of %v: %d, %d, want of %v", edges, node, size, greatest)
			}
		}
	}
	way, star := [][2]int{{0, 1}, {1, 2}}, [][2]int{{0, 1}, {0, 2}, {0, 3}, {0, 4}}
	a, _ := Looks(3, way)
	b, _ := Looks(5, star)
	c, _ := Looks(1, nil)
	if a != 1 || b != 1 || c != 0 {
		t.Errorf("Looks: %d, %d, %d", a, b, c)
	}
	if node, size, e := Middle(1, nil); node != 0 || size != 0 || e != api.OK {
		t.Errorf("Middle of a node: %d, %d", node, size)
	}
}

func TestAreMarks(t *testing.T) {
	all := trees()
	chance := rand.New(rand.NewSource(23))
	for n, list := range all {
		for _, edges := range list {
			looks, _ := Looks(n, edges)
			low := 10
			for range 60 {
				marks := someNumbers(chance, n, 0, min(10, looks+1))
				want := rightMarks(n, edges, marks)
				if is, e := AreMarks(n, edges, marks); is != want || e != api.OK {
					t.Errorf("AreMarks of %v, %v: %t", edges, marks, is)
				}
				if want {
					low = min(low, slices.Max(marks))
				}
			}
			if low < looks {
				t.Errorf("Looks of %v: %d, but marks with %d", edges, looks, low)
			}
		}
	}
	edge := [][2]int{{0, 1}}
	for _, x := range []struct {
		marks []int
		want  bool
	}{
		{[]int{0, 1}, true}, {[]int{10, 0}, true}, {[]int{10, 10}, false}, {[]int{11, 0}, false}, {[]int{0, -1}, false}, {[]int{0}, false}, {nil, false},
		{[]int{0, 1, 2}, false}, {[]int{math.MaxInt, 0}, false}, {[]int{0, math.MinInt}, false},
	} {
		if is, e := AreMarks(2, edge, x.marks); is != x.want || e != api.OK {
			t.Errorf("AreMarks of %v: %t", x.marks, is)
		}
	}
}

func TestLanterns(t *testing.T) {
	// enough says by the rules of the search whether so many lanterns and tries are always enough
	known := map[[3]int]bool{}
	var enough func(c, t, steps int) bool
	enough = func(c, t, steps int) bool {
		if steps == 0 || c == 0 || t == 0 {
			return steps == 0
		}
		key := [3]int{c, t, steps}
		is, ok := known[key]
		for first := 1; first <= steps && !is && !ok; first++ {
			is = enough(c-1, t-1, first-1) && enough(c, t-1, steps-first)
		}
		known[key] = is
		return is
	}
	for c := range 5 {
		for tries := range 7 {
			n, e := Steps(c, tries)
			if e != api.OK || !enough(c, tries, int(n)) || enough(c, tries, int(n)+1) {
				t.Errorf("Steps of %d, %d: %d", c, tries, n)
			}
		}
	}
	for c := range 21 {
		for tries := range 61 {
			sum, binomial := int64(0), int64(1)
			for i := 1; i <= c && i <= tries; i++ {
				binomial = binomial * int64(tries-i+1) / int64(i)
				sum += binomial
			}
			if n, e := Steps(c, tries); n != sum || e != api.OK {
				t.Errorf("P8.7 of %d, %d: %d, want %d", c, tries, n, sum)
			}
		}
	}
	for c := 1; c <= 20; c++ {
		for _, steps := range []int64{0, 1, 2, 3, 7, 8, 60, 61, 100, 1830, 1831, 123456, 1000000000000} {
			tries, e := Tries(c, steps)
			most, _ := Steps(c, 60)
			if steps > most {
				none(t, "Tries", api.ErrLarge, e, tries)
				d, e := Drop(c, steps)
				none(t, "Drop", api.ErrLarge, e, d)
				continue
			}
			n, _ := Steps(c, tries)
			less := int64(-1)
			if tries > 0 {
				less, _ = Steps(c, tries-1)
			}
			if n < steps || less >= steps || e != api.OK {
				t.Errorf("Tries of %d, %d: %d", c, steps, tries)
			}
			d, e := Drop(c, steps)
			if steps == 0 {
				none(t, "Drop", api.ErrArg, e, d)
				continue
			}
			below, _ := Steps(c-1, tries-1)
			isEnough := func(d int64) bool { return d >= 1 && d-1 <= below && steps-d <= less }
			if !isEnough(d) || isEnough(d-1) || e != api.OK {
				t.Errorf("Drop of %d, %d: %d", c, steps, d)
			}
		}
	}
	a, _ := Steps(2, 4)
	b, _ := Tries(2, 100)
	c, _ := Drop(2, 100)
	if a != 10 || b != 14 || c != 9 {
		t.Errorf("lanterns: %d, %d, %d", a, b, c)
	}
	for _, c := range []int{-1, 21, math.MinInt, math.MaxInt} {
		n, e := Steps(c, 5)
		none(t, "Steps", api.ErrArg, e, n)
		tries, e := Tries(c, 5)
		none(t, "Tries", api.ErrArg, e, tries)
		n, e = Drop(c, 5)
		none(t, "Drop", api.ErrArg, e, n)
	}
	tries, e := Tries(0, 0)
	none(t, "Tries", api.ErrArg, e, tries)
	for _, x := range []int{-1, 61, math.MinInt, math.MaxInt} {
		n, e := Steps(5, x)
		none(t, "Steps", api.ErrArg, e, n)
	}
	for _, steps := range []int64{-1, 1000000000001, math.MinInt64, math.MaxInt64} {
		tries, e := Tries(5, steps)
		none(t, "Tries", api.ErrArg, e, tries)
		n, e := Drop(5, steps)
		none(t, "Drop", api.ErrArg, e, n)
	}
}

func TestMemory(t *testing.T) {
	costs, plan, weights := []int{3, 1, 9}[:2], []int{1, 0, 9}[:2], []int{1, 2, 3, 9}[:3]
	p, _ := Prices(costs, plan)
	a, _ := Answer(costs, plan, 0)
	PriceOf(costs, weights, plan)
	Weighed(costs, weights)
	for i := range a {
		a[i] = 7
	}
	p[0] = 7
	if fmt.Sprint(costs[:3], plan[:3], weights[:4]) != "[3 1 9] [1 0 9] [1 2 3 9]" {
		t.Errorf("arguments have changed: %v, %v, %v", costs, plan, weights)
	}
}
