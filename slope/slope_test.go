package slope

import (
	"fmt"
	"math"
	"math/big"
	"math/rand"
	"reflect"
	"slices"
	"testing"

	"tosher/api"
)

var (
	triangle = Ground{3, [][2]int{{0, 1}, {0, 2}, {1, 2}}, nil}
	plate    = Ground{3, [][2]int{{0, 1}, {0, 2}, {1, 2}}, [][3]int{{0, 1, 2}}}
	square   = Ground{4, [][2]int{{0, 1}, {0, 3}, {1, 2}, {2, 3}}, nil}
	four     = Ground{4, [][2]int{{0, 1}, {0, 2}, {0, 3}, {1, 2}, {1, 3}, {2, 3}}, [][3]int{{0, 1, 2}, {0, 1, 3}, {0, 2, 3}, {1, 2, 3}}}
	ten      = Ground{5, [][2]int{{0, 1}, {0, 2}, {0, 3}, {0, 4}, {1, 2}, {1, 3}, {1, 4}, {2, 3}, {2, 4}, {3, 4}}, [][3]int{{0, 1, 2}, {0, 1, 3}, {0, 2, 4}, {0, 3, 4}, {1, 2, 4}, {2, 3, 4}}}
	chance   = rand.New(rand.NewSource(3))
)

// grounds are some that are made by chance, with those of the examples.
func grounds() []Ground {
	out := []Ground{triangle, plate, square, four, ten, {1, nil, nil}, {2, [][2]int{{0, 1}}, nil}, {6, nil, nil}}
	chance := rand.New(rand.NewSource(5))
	for len(out) < 120 {
		g := Ground{N: 2 + chance.Intn(5)}
		for i := range g.N {
			for k := i + 1; k < g.N; k++ {
				if chance.Intn(10) < 7 && len(g.Edges) < 10 {
					g.Edges = append(g.Edges, [2]int{i, k})
				}
			}
		}
		for i := range g.N {
			for j := i + 1; j < g.N; j++ {
				for k := j + 1; k < g.N; k++ {
					all := slices.Contains(g.Edges, [2]int{i, j}) && slices.Contains(g.Edges, [2]int{j, k}) && slices.Contains(g.Edges, [2]int{i, k})
					if all && chance.Intn(10) < 6 && len(g.Plates) < 6 {
						g.Plates = append(g.Plates, [3]int{i, j, k})
					}
				}
			}
		}
		out = append(out, g)
	}
	return out
}

// some returns a list of numbers from -100 to 100.
func some(many int) []int {
	out := make([]int, many)
	for i := range out {
		out[i] = chance.Intn(201) - 100
	}
	return out
}

func TestCheck(t *testing.T) {
	for _, x := range []struct {
		g    Ground
		want api.Errno
	}{
		{Ground{}, api.ErrSlope}, {Ground{7, nil, nil}, api.ErrSlope}, {Ground{-1, nil, nil}, api.ErrSlope}, {Ground{math.MaxInt, nil, nil}, api.ErrSlope},
		{Ground{1, nil, nil}, api.OK}, {Ground{6, nil, nil}, api.OK}, {plate, api.OK}, {ten, api.OK},
		{Ground{2, [][2]int{{0, 0}}, nil}, api.ErrSlope}, {Ground{2, [][2]int{{1, 0}}, nil}, api.ErrSlope}, {Ground{2, [][2]int{{0, 2}}, nil}, api.ErrSlope},
		{Ground{2, [][2]int{{-1, 1}}, nil}, api.ErrSlope}, {Ground{2, [][2]int{{0, 1}, {0, 1}}, nil}, api.ErrSlope}, {Ground{3, [][2]int{{0, 2}, {0, 1}}, nil}, api.ErrSlope},
		{Ground{6, [][2]int{{0, 1}, {0, 2}, {0, 3}, {0, 4}, {0, 5}, {1, 2}, {1, 3}, {1, 4}, {1, 5}, {2, 3}, {2, 4}}, nil}, api.ErrSlope},
		{Ground{3, triangle.Edges, [][3]int{{0, 2, 1}}}, api.ErrSlope}, {Ground{3, triangle.Edges, [][3]int{{0, 1, 2}, {0, 1, 2}}}, api.ErrSlope},
		{Ground{3, [][2]int{{0, 1}, {1, 2}}, [][3]int{{0, 1, 2}}}, api.ErrSlope}, {Ground{3, triangle.Edges, [][3]int{{0, 0, 1}}}, api.ErrSlope},
		{Ground{3, triangle.Edges[:2], [][3]int{{0, 1, 2}}}, api.ErrSlope}, {Ground{3, triangle.Edges[1:], [][3]int{{0, 1, 2}}}, api.ErrSlope},
		{Ground{4, four.Edges, [][3]int{{0, 1, 3}, {0, 1, 2}}}, api.ErrSlope}, {Ground{4, four.Edges, [][3]int{{0, 1, 4}}}, api.ErrSlope},
		{Ground{4, four.Edges, [][3]int{{math.MinInt, 1, math.MaxInt}}}, api.ErrSlope},
		{Ground{5, ten.Edges, [][3]int{{0, 1, 2}, {0, 1, 3}, {0, 2, 4}, {0, 3, 4}, {1, 2, 3}, {1, 2, 4}, {2, 3, 4}}}, api.ErrSlope},
	} {
		if e := Check(x.g); e != x.want {
			t.Errorf("Check of %v: %d", x.g, e)
		}
	}
}

// calls calls all functions that take a ground and a list with the same list.
func calls(g Ground, list []int) ([]any, []api.Errno) {
	gradient, a := Gradient(g, list)
	swirl, b := Swirl(g, list)
	gains, c := Gains(g, list)
	turns, d := Turns(g, list)
	heights, down, e := Heights(g, list)
	ring, has, f := Ring(g, list)
	sum, is, h := IsRing(g, list, []int{0, 1, 2})
	parts, i := Parts(g, list)
	best, j := Best(g, list)
	sizes, k := Sizes(g, list)
	calm, l := IsCalm(g, list)
	return []any{gradient, swirl, gains, turns, heights, down, ring, has, sum, is, parts, best, sizes, calm}, []api.Errno{a, b, c, d, e, f, h, i, j, k, l}
}

func TestErrors(t *testing.T) {
	bad := Ground{3, [][2]int{{1, 0}}, nil}
	for _, x := range []struct {
		g    Ground
		list []int
		want api.Errno
	}{
		{bad, nil, api.ErrSlope}, {bad, []int{1000}, api.ErrSlope}, {Ground{}, []int{1, 2, 3}, api.ErrSlope},
		{plate, nil, api.ErrArg}, {plate, []int{1, 2, 3, 4}, api.ErrArg}, {plate, []int{1, 101, 3}, api.ErrArg}, {plate, []int{1, -101, 3}, api.ErrArg},
		{plate, []int{math.MinInt, 0, 0}, api.ErrArg}, {plate, []int{0, 0, math.MaxInt}, api.ErrArg},
	} {
		values, errors := calls(x.g, x.list)
		for i, e := range errors {
			if e != x.want {
				t.Errorf("call %d of %v, %v: %d", i, x.g, x.list, e)
			}
		}
		for i, v := range values {
			if !reflect.ValueOf(v).IsZero() {
				t.Errorf("result %d of %v, %v: %v", i, x.g, x.list, v)
			}
		}
	}
	gauge, e := Gauge(bad)
	pieces, f := Pieces(bad)
	if gauge != 0 || pieces != 0 || e != api.ErrSlope || f != api.ErrSlope {
		t.Errorf("Gauge, Pieces: %d, %d", e, f)
	}
	if _, e := Swirl(plate, []int{101}); e != api.ErrArg {
		t.Errorf("Swirl: %d", e)
	}
}

func TestFlows(t *testing.T) {
	for _, g := range grounds() {
		heights, turns, flow := some(g.N), some(len(g.Plates)), some(len(g.Edges))
		at := func(f []int, i, k int) int { return f[slices.Index(g.Edges, [2]int{i, k})] }
		gradient, e := Gradient(g, heights)
		for i, x := range g.Edges {
			if gradient[i] != heights[x[1]]-heights[x[0]] || e != api.OK {
				t.Errorf("Gradient of %v, %v: %v", g, heights, gradient)
			}
		}
		swirl, e := Swirl(g, turns)
		for i, x := range g.Edges {
			want := 0
			for p, y := range g.Plates {
				switch x {
				case [2]int{y[0], y[1]}, [2]int{y[1], y[2]}:
					want += turns[p]
				case [2]int{y[0], y[2]}:
					want -= turns[p]
				}
			}
			if swirl[i] != want || e != api.OK {
				t.Errorf("Swirl of %v, %v: %v", g, turns, swirl)
			}
		}
		gains, e := Gains(g, flow)
		for node := range g.N {
			want := 0
			for i, x := range g.Edges {
				if x[1] == node {
					want += flow[i]
				}
				if x[0] == node {
					want -= flow[i]
				}
			}
			if len(gains) != g.N || gains[node] != want || e != api.OK {
				t.Errorf("Gains of %v, %v: %v", g, flow, gains)
			}
		}
		round, e := Turns(g, flow)
		for p, y := range g.Plates {
			if round[p] != at(flow, y[0], y[1])+at(flow, y[1], y[2])-at(flow, y[0], y[2]) || e != api.OK {
				t.Errorf("Turns of %v, %v: %v", g, flow, round)
			}
		}
		calm, e := IsCalm(g, flow)
		isSome := func(n int) bool { return n != 0 }
		if calm != (!slices.ContainsFunc(gains, isSome) && !slices.ContainsFunc(round, isSome)) || e != api.OK {
			t.Errorf("IsCalm of %v, %v: %t", g, flow, calm)
		}
		none, e := IsCalm(g, make([]int, len(g.Edges)))
		if !none || e != api.OK {
			t.Errorf("IsCalm of nothing: %t", none)
		}
	}
	if is, _ := IsCalm(square, []int{1, -1, 1, 1}); !is {
		t.Error("IsCalm of a ring")
	}
	if is, _ := IsCalm(plate, []int{1, -1, 1}); is {
		t.Error("IsCalm of a turn")
	}
	if is, _ := IsCalm(plate, []int{1, 1, 0}); is {
		t.Error("IsCalm of a gain")
	}
}

// leasts returns for each node the least one of its piece.
func leasts(g Ground) []int {
	out := make([]int, g.N)
	for i := range out {
		out[i] = i
	}
	for range g.N {
		for _, x := range g.Edges {
			low := min(out[x[0]], out[x[1]])
			out[x[0]], out[x[1]] = low, low
		}
	}
	return out
}

func TestSlopes(t *testing.T) {
	for _, g := range grounds() {
		pieces, e := Pieces(g)
		least := leasts(g)
		want := map[int]bool{}
		for _, l := range least {
			want[l] = true
		}
		if pieces != len(want) || e != api.OK {
			t.Errorf("Pieces of %v: %d", g, pieces)
		}
		start := make([]int, g.N)
		for i := range start {
			start[i] = chance.Intn(101) - 50
		}
		down, _ := Gradient(g, start)
		heights, ok, e := Heights(g, down)
		for i, h := range heights {
			if h != start[i]-start[least[i]] {
				t.Errorf("Heights of %v, %v: %v", g, down, heights)
			}
		}
		if !ok || len(heights) != g.N || e != api.OK {
			t.Errorf("Heights of %v, %v: %v", g, down, heights)
		}
		if ring, ok, e := Ring(g, down); ok || ring != nil || e != api.OK {
			t.Errorf("Ring of %v, %v: %v", g, down, ring)
		}
		for range 3 {
			flow := some(len(g.Edges))
			heights, ok, e := Heights(g, flow)
			ring, has, f := Ring(g, flow)
			sum, is, h := IsRing(g, flow, ring)
			if ok == has || is != has || has && sum == 0 || e+f+h != api.OK {
				t.Errorf("%v, %v: %v, %v, %d", g, flow, heights, ring, sum)
			}
			if !ok && heights != nil || !has && ring != nil {
				t.Errorf("%v, %v: %v, %v", g, flow, heights, ring)
			}
		}
	}
	if h, ok, e := Heights(triangle, []int{1, 1, 1}); ok || h != nil || e != api.OK {
		t.Errorf("Heights of the triangle: %v", h)
	}
	if h, ok, e := Heights(Ground{2, [][2]int{{0, 1}}, nil}, []int{-7}); !ok || fmt.Sprint(h) != "[0 -7]" || e != api.OK {
		t.Errorf("Heights of an edge: %v", h)
	}
}

func TestIsRing(t *testing.T) {
	flow := []int{1, 10, 20, 40}
	for _, x := range []struct {
		ring []int
		sum  int
		is   bool
	}{
		{[]int{0, 1, 2, 3}, 51, true}, {[]int{3, 2, 1, 0}, -51, true}, {[]int{2, 3, 0, 1}, 51, true}, {[]int{0, 1, 2}, 0, false},
		{nil, 0, false}, {[]int{0, 1}, 0, false}, {[]int{0, 1, 2, 1}, 0, false}, {[]int{0, 1, 0, 3}, 0, false}, {[]int{0, 1, 2, 3, 0, 1, 2, 3}, 0, false},
		{[]int{0, 1, 2, 4}, 0, false}, {[]int{-1, 0, 1, 2}, 0, false}, {[]int{0, 1, 2, math.MaxInt}, 0, false}, {[]int{0, 2, 1, 3}, 0, false},
	} {
		if sum, is, e := IsRing(square, flow, x.ring); sum != x.sum || is != x.is || e != api.OK {
			t.Errorf("IsRing of %v: %d, %t", x.ring, sum, is)
		}
	}
	if sum, is, e := IsRing(triangle, []int{1, 2, 1}, []int{0, 1, 2}); sum != 0 || !is || e != api.OK {
		t.Errorf("IsRing of a ring without a sum: %d, %t", sum, is)
	}
}

func rat(p [2]int64) *big.Rat {
	return big.NewRat(p[0], p[1])
}

func isLowest(p [2]int64) bool {
	r := rat(p)
	return r.Num().Int64() == p[0] && r.Denom().Int64() == p[1]
}

// rankOf reduces rows of fractions of any size.
func rankOf(rows [][]*big.Rat) int {
	done := 0
	for column := 0; len(rows) > 0 && column < len(rows[0]); column++ {
		at := slices.IndexFunc(rows[done:], func(r []*big.Rat) bool { return r[column].Sign() != 0 })
		if at < 0 {
			continue
		}
		rows[done], rows[done+at] = rows[done+at], rows[done]
		for i := done + 1; i < len(rows); i++ {
			times := new(big.Rat).Quo(rows[i][column], rows[done][column])
			for k := range rows[i] {
				rows[i][k] = new(big.Rat).Sub(rows[i][k], new(big.Rat).Mul(times, rows[done][k]))
			}
		}
		if done++; done == len(rows) {
			break
		}
	}
	return done
}

// images returns the flows of lists of which just one number is 1.
func images(many int, f func([]int) ([]int, api.Errno)) [][]*big.Rat {
	var out [][]*big.Rat
	for i := range many {
		list := make([]int, many)
		list[i] = 1
		flow, _ := f(list)
		var row []*big.Rat
		for _, n := range flow {
			row = append(row, big.NewRat(int64(n), 1))
		}
		out = append(out, row)
	}
	return out
}

func gradientsOf(g Ground) [][]*big.Rat {
	return images(g.N, func(l []int) ([]int, api.Errno) { return Gradient(g, l) })
}

func swirlsOf(g Ground) [][]*big.Rat {
	return images(len(g.Plates), func(l []int) ([]int, api.Errno) { return Swirl(g, l) })
}

func rats(list [][2]int64) []*big.Rat {
	var out []*big.Rat
	for _, p := range list {
		out = append(out, rat(p))
	}
	return out
}

func dot(a, b []*big.Rat) *big.Rat {
	out := new(big.Rat)
	for i := range a {
		out.Add(out, new(big.Rat).Mul(a[i], b[i]))
	}
	return out
}

func TestParts(t *testing.T) {
	for _, g := range grounds() {
		flow := some(len(g.Edges))
		if chance.Intn(4) == 0 {
			for i := range flow {
				flow[i] = 100 - 200*chance.Intn(2)
			}
		}
		parts, e := Parts(g, flow)
		sizes, f := Sizes(g, flow)
		best, h := Best(g, flow)
		if e+f+h != api.OK || len(best) != g.N {
			t.Fatalf("%v, %v: %d, %d, %d", g, flow, e, f, h)
		}
		var all []*big.Rat
		for i, n := range flow {
			all = append(all, big.NewRat(int64(n), 1))
			sum := new(big.Rat)
			for _, part := range parts {
				if !isLowest(part[i]) {
					t.Errorf("Parts of %v, %v: %v", g, flow, part)
				}
				sum.Add(sum, rat(part[i]))
			}
			if sum.Cmp(all[i]) != 0 {
				t.Errorf("Parts of %v, %v: %v", g, flow, parts)
			}
			x := g.Edges[i]
			if new(big.Rat).Sub(rat(best[x[1]]), rat(best[x[0]])).Cmp(rat(parts[0][i])) != 0 {
				t.Errorf("Best of %v, %v: %v", g, flow, best)
			}
		}
		sums := map[int]*big.Rat{}
		for node, l := range leasts(g) {
			if sums[l] == nil {
				sums[l] = new(big.Rat)
			}
			sums[l].Add(sums[l], rat(best[node]))
			if !isLowest(best[node]) {
				t.Errorf("Best of %v, %v: %v", g, flow, best)
			}
		}
		for _, sum := range sums {
			if sum.Sign() != 0 {
				t.Errorf("Best of %v, %v: %v", g, flow, best)
			}
		}
		swirls := swirlsOf(g)
		before := rankOf(swirlsOf(g))
		if rankOf(append(swirlsOf(g), rats(parts[1]))) != before && len(g.Edges) > 0 {
			t.Errorf("Parts of %v, %v: %v is no swirl", g, flow, parts[1])
		}
		for _, other := range append(gradientsOf(g), swirls...) {
			if dot(other, rats(parts[2])).Sign() != 0 {
				t.Errorf("Parts of %v, %v: %v is not calm", g, flow, parts[2])
			}
		}
		total := new(big.Rat)
		for i, list := range [][]*big.Rat{all, rats(parts[0]), rats(parts[1]), rats(parts[2])} {
			if dot(list, list).Cmp(rat(sizes[i])) != 0 || !isLowest(sizes[i]) {
				t.Errorf("Sizes of %v, %v: %v", g, flow, sizes)
			}
			if i > 0 {
				total.Add(total, rat(sizes[i]))
			}
		}
		if total.Cmp(rat(sizes[0])) != 0 {
			t.Errorf("P3.5 of %v, %v: %v", g, flow, sizes)
		}
	}
}

func TestGauge(t *testing.T) {
	for _, g := range grounds() {
		gauge, e := Gauge(g)
		pieces, _ := Pieces(g)
		free := rankOf(swirlsOf(g))
		if len(g.Edges) == 0 {
			free = 0
		}
		want := len(g.Edges) - (g.N - pieces) - free
		euler := len(g.Edges) - g.N + pieces - len(g.Plates)
		if gauge != want || gauge < euler || free == len(g.Plates) && gauge != euler || e != api.OK {
			t.Errorf("Gauge of %v: %d, want %d", g, gauge, want)
		}
	}
	for _, x := range []struct {
		g    Ground
		want int
	}{{triangle, 1}, {plate, 0}, {square, 1}, {four, 0}, {Ground{1, nil, nil}, 0}} {
		if gauge, e := Gauge(x.g); gauge != x.want || e != api.OK {
			t.Errorf("Gauge of %v: %d", x.g, gauge)
		}
	}
}

func TestExamples(t *testing.T) {
	parts, e := Parts(triangle, []int{1, 1, 1})
	if fmt.Sprint(parts) != "[[[2 3] [4 3] [2 3]] [[0 1] [0 1] [0 1]] [[1 3] [-1 3] [1 3]]]" || e != api.OK {
		t.Errorf("Parts of the triangle: %v", parts)
	}
	parts, e = Parts(plate, []int{1, 1, 1})
	if fmt.Sprint(parts) != "[[[2 3] [4 3] [2 3]] [[1 3] [-1 3] [1 3]] [[0 1] [0 1] [0 1]]]" || e != api.OK {
		t.Errorf("Parts of the plate: %v", parts)
	}
	sizes, e := Sizes(triangle, []int{1, 1, 1})
	if fmt.Sprint(sizes) != "[[3 1] [8 3] [0 1] [1 3]]" || e != api.OK {
		t.Errorf("Sizes of the triangle: %v", sizes)
	}
	sizes, e = Sizes(Ground{3, nil, nil}, nil)
	if fmt.Sprint(sizes) != "[[0 1] [0 1] [0 1] [0 1]]" || e != api.OK {
		t.Errorf("Sizes of nothing: %v", sizes)
	}
	best, e := Best(triangle, []int{1, 1, 1})
	if fmt.Sprint(best) != "[[-2 3] [0 1] [2 3]]" || e != api.OK {
		t.Errorf("Best of the triangle: %v", best)
	}
}

func TestConsequences(t *testing.T) {
	for _, g := range grounds() {
		heights, turns := some(g.N), some(len(g.Plates))
		for i := range heights {
			heights[i] /= 2
		}
		for i := range turns {
			turns[i] /= 10
		}
		gradient, _ := Gradient(g, heights)
		swirl, _ := Swirl(g, turns)
		noTurns, e := Turns(g, gradient)
		noGains, f := Gains(g, swirl)
		if e+f != api.OK || len(noTurns) > 0 && (slices.Min(noTurns) != 0 || slices.Max(noTurns) != 0) || slices.Min(noGains) != 0 || slices.Max(noGains) != 0 {
			t.Errorf("P3.4 of %v: %v, %v", g, noTurns, noGains)
		}
	}
}

func TestMemory(t *testing.T) {
	flow := []int{3, 1, 4, 9}[:3]
	edges := slices.Clone(plate.Edges)
	g := Ground{3, edges, [][3]int{{0, 1, 2}}}
	calls(g, flow)
	if !slices.Equal(flow[:4], []int{3, 1, 4, 9}) || !slices.Equal(edges, plate.Edges) {
		t.Errorf("arguments have changed: %v, %v", flow[:4], edges)
	}
	a, _ := Parts(g, flow)
	b, _ := Parts(g, flow)
	a[0][0] = [2]int64{77, 1}
	if reflect.DeepEqual(a, b) || a[1][0] == a[0][0] {
		t.Error("results share memory")
	}
}
