package plane

import (
	"fmt"
	"math"
	"math/rand"
	"reflect"
	"slices"
	"testing"

	"tosher/api"
)

var (
	three   = Map{[][]int{{0, 2, 4}, {1, 5, 3}}}
	crossed = Map{[][]int{{0, 2, 4}, {1, 3, 5}}}
	point   = Map{[][]int{{}}}
	cycles  = Map{[][]int{{0, 2, 1, 3}}}
	five    = [][2]int{{0, 1}, {0, 2}, {0, 3}, {0, 4}, {1, 2}, {1, 3}, {1, 4}, {2, 3}, {2, 4}, {3, 4}}
	houses  = [][2]int{{0, 3}, {0, 4}, {0, 5}, {1, 3}, {1, 4}, {1, 5}, {2, 3}, {2, 4}, {2, 5}}
)

// maps are some that are made by chance, with the three of the examples.
func maps() []Map {
	out := []Map{three, crossed, point, cycles}
	chance := rand.New(rand.NewSource(2))
	for len(out) < 150 {
		pipes := 1 + chance.Intn(12)
		turns := make([][]int, 1+chance.Intn(pipes+1))
		for _, d := range chance.Perm(2 * pipes) {
			i := chance.Intn(len(turns))
			turns[i] = append(turns[i], d)
		}
		if m := (Map{turns}); Check(m) == api.OK {
			out = append(out, m)
		}
	}
	way := Map{make([][]int, 13)}
	for e := range 12 {
		way.Turns[e] = append(way.Turns[e], 2*e)
		way.Turns[e+1] = append(way.Turns[e+1], 2*e+1)
	}
	return append(out, way)
}

func TestCheck(t *testing.T) {
	for _, x := range []struct {
		turns [][]int
		want  api.Errno
	}{
		{nil, api.ErrMap}, {[][]int{nil}, api.OK}, {[][]int{{}, {}}, api.ErrMap}, {make([][]int, 14), api.ErrMap},
		{[][]int{{0}}, api.ErrMap}, {[][]int{{0, 1}}, api.OK}, {[][]int{{1, 2}}, api.ErrMap}, {[][]int{{0, 0}}, api.ErrMap},
		{[][]int{{0, -1}}, api.ErrMap}, {[][]int{{0, math.MaxInt}}, api.ErrMap}, {[][]int{{math.MinInt, 1}}, api.ErrMap},
		{[][]int{{0, 1}, {2, 3}}, api.ErrMap}, {[][]int{{0, 1}, nil}, api.ErrMap}, {[][]int{{0, 3}, {2, 1}}, api.OK},
		{[][]int{{0, 1, 2}, {0, 3, 1}}, api.ErrMap},
		{[][]int{{0, 1, 2, 3, 4, 5, 6, 7, 8, 9, 10, 11, 12, 13, 14, 15, 16, 17, 18, 19, 20, 21, 22, 23}}, api.OK},
		{[][]int{{0, 1, 2, 3, 4, 5, 6, 7, 8, 9, 10, 11, 12, 13, 14, 15, 16, 17, 18, 19, 20, 21, 22, 23, 24, 25}}, api.ErrMap},
		{three.Turns, api.OK}, {crossed.Turns, api.OK},
	} {
		if e := Check(Map{x.turns}); e != x.want {
			t.Errorf("Check of %v: %d", x.turns, e)
		}
	}
	for _, m := range maps() {
		if Check(m) != api.OK {
			t.Errorf("Check of %v", m)
		}
	}
}

func TestErrors(t *testing.T) {
	bad := Map{[][]int{{0}}}
	faces, a := Faces(bad)
	genus, b := Genus(bad)
	ends, c := Ends(bad)
	dual, d := Dual(bad)
	turned, e := Turned(bad)
	form, f := Form(bad)
	side, is, g := IsCut(bad, -1)
	even, h := IsEven(bad, -1)
	joining, rest, i := Trees(bad)
	cut, sum, j := LeastCut(bad, nil, -1, -1)
	for n, e := range []api.Errno{a, b, c, d, e, f, g, h, i, j} {
		if e != api.ErrMap {
			t.Errorf("call %d: %d", n, e)
		}
	}
	if faces != nil || ends != nil || dual.Turns != nil || turned.Turns != nil || form.Turns != nil || is || even || genus+side+joining+rest+cut+sum != 0 {
		t.Error("results next to an error")
	}
	for _, set := range []int{-1, 8, 1 << 30, math.MinInt, math.MaxInt} {
		if side, is, e := IsCut(three, set); side != 0 || is || e != api.ErrArg {
			t.Errorf("IsCut of %d: %d", set, e)
		}
		if is, e := IsEven(three, set); is || e != api.ErrArg {
			t.Errorf("IsEven of %d: %d", set, e)
		}
	}
	for _, x := range []struct {
		widths []int
		s, t   int
	}{
		{nil, 0, 1}, {[]int{1, 1}, 0, 1}, {[]int{1, 1, 1, 1}, 0, 1}, {[]int{1, 1, 1001}, 0, 1}, {[]int{-1, 1, 1}, 0, 1},
		{[]int{1, 1, 1}, 0, 0}, {[]int{1, 1, 1}, 0, 2}, {[]int{1, 1, 1}, -1, 1}, {[]int{1, 1, math.MaxInt}, 0, 1},
	} {
		if cut, sum, e := LeastCut(three, x.widths, x.s, x.t); cut != 0 || sum != 0 || e != api.ErrArg {
			t.Errorf("LeastCut of %v: %d", x, e)
		}
	}
}

func TestFaces(t *testing.T) {
	for _, x := range []struct {
		m     Map
		faces string
		genus int
	}{
		{three, "[[0 5] [1 2] [3 4]]", 0}, {crossed, "[[0 3 4 1 2 5]]", 1}, {point, "[[]]", 0}, {cycles, "[[0 3 1 2]]", 1},
		{Map{[][]int{{0}, {1}}}, "[[0 1]]", 0}, {Map{[][]int{{1, 0}}}, "[[0] [1]]", 0},
	} {
		faces, e := Faces(x.m)
		genus, h := Genus(x.m)
		if fmt.Sprint(faces) != x.faces || genus != x.genus || e+h != api.OK {
			t.Errorf("%v: %v, %d", x.m, faces, genus)
		}
	}
	for _, m := range maps() {
		faces, _ := Faces(m)
		ends, _ := Ends(m)
		genus, _ := Genus(m)
		if 2*genus != 2-len(m.Turns)+len(ends)-len(faces) || genus < 0 {
			t.Errorf("Genus of %v: %d", m, genus)
		}
		after := map[int]int{}
		for _, turn := range m.Turns {
			for i, d := range turn {
				after[d] = turn[(i+1)%len(turn)]
			}
		}
		seen := 0
		for i, face := range faces {
			for k, d := range face {
				if after[d^1] != face[(k+1)%len(face)] || d < face[0] || i > 0 && face[0] < faces[i-1][0] {
					t.Errorf("Faces of %v: %v", m, faces)
				}
				seen++
			}
		}
		if seen != 2*len(ends) {
			t.Errorf("Faces of %v: %v", m, faces)
		}
		for e, x := range ends {
			if !slices.Contains(m.Turns[x[0]], 2*e) || !slices.Contains(m.Turns[x[1]], 2*e+1) {
				t.Errorf("Ends of %v: %v", m, ends)
			}
		}
	}
}

func TestDuals(t *testing.T) {
	for _, m := range maps() {
		genus, _ := Genus(m)
		faces, _ := Faces(m)
		dual, e := Dual(m)
		if e != api.OK || fmt.Sprint(dual.Turns) != fmt.Sprint(faces) || Check(dual) != api.OK {
			t.Errorf("Dual of %v: %v", m, dual)
		}
		turned, e := Turned(m)
		for i, turn := range turned.Turns {
			slices.Reverse(turn)
			if !slices.Equal(turn, m.Turns[i]) || e != api.OK {
				t.Errorf("Turned of %v: %v", m, turned)
			}
			slices.Reverse(turn)
		}
		a, _ := Genus(dual)
		b, _ := Genus(turned)
		if a != genus || b != genus {
			t.Errorf("P2.5 of %v: %d, %d, %d", m, genus, a, b)
		}
		form, e := Form(m)
		if e != api.OK || len(form.Turns) != len(m.Turns) {
			t.Errorf("Form of %v: %v", m, form)
		}
		for i, turn := range form.Turns {
			twice := append(slices.Clone(m.Turns[i]), m.Turns[i]...)
			if len(turn) == 0 {
				continue
			}
			at := slices.Index(twice, turn[0])
			if turn[0] != slices.Min(turn) || !slices.Equal(twice[at:at+len(turn)], turn) {
				t.Errorf("Form of %v: %v", m, form)
			}
		}
		again, _ := Dual(dual)
		slices.SortFunc(form.Turns, slices.Compare)
		if fmt.Sprint(again.Turns) != fmt.Sprint(form.Turns) {
			t.Errorf("the dual of the dual of %v: %v", m, again)
		}
	}
}

func TestCutsAndRings(t *testing.T) {
	for _, m := range maps() {
		ends, _ := Ends(m)
		genus, _ := Genus(m)
		dual, _ := Dual(m)
		cuts := map[int]int{}
		for side := 0; side < 1<<len(m.Turns); side += 2 {
			cut := 0
			for p, e := range ends {
				if side>>e[0]&1 != side>>e[1]&1 {
					cut |= 1 << p
				}
			}
			cuts[cut] = side
		}
		evens := 0
		for set := range 1 << len(ends) {
			side, is, e := IsCut(m, set)
			want, ok := cuts[set]
			if side != want || is != ok || e != api.OK {
				t.Errorf("IsCut of %v, %d: %d, %t", m, set, side, is)
			}
			odd := false
			for _, turn := range m.Turns {
				many := 0
				for _, d := range turn {
					many += set >> (d / 2) & 1
				}
				odd = odd || many%2 == 1
			}
			even, e := IsEven(m, set)
			if even == odd || e != api.OK {
				t.Errorf("IsEven of %v, %d: %t", m, set, even)
			}
			if even {
				evens++
			}
			if other, _ := IsEven(dual, set); genus == 0 && other != is {
				t.Errorf("P2.6 of %v, %d", m, set)
			}
		}
		if evens*len(cuts) != 1<<len(ends) {
			t.Errorf("%v: %d cuts, %d even sets", m, len(cuts), evens)
		}
	}
}

// joinsAll says whether a set of pipes joins all nodes of a map, and has no ring.
func joinsAll(m Map, set int) bool {
	ends, _ := Ends(m)
	reached, many := 1, 0
	for range ends {
		for p, e := range ends {
			if set>>p&1 == 1 && reached>>e[0]&1 != reached>>e[1]&1 {
				reached |= 1<<e[0] | 1<<e[1]
				many++
			}
		}
	}
	return reached == 1<<len(m.Turns)-1 && many == size(set)
}

func TestTrees(t *testing.T) {
	for _, m := range maps() {
		ends, _ := Ends(m)
		genus, _ := Genus(m)
		dual, _ := Dual(m)
		joining, rest, e := Trees(m)
		if e != api.OK || !joinsAll(m, joining) || joining&rest != 0 || joining|rest != 1<<len(ends)-1 {
			t.Errorf("Trees of %v: %d, %d", m, joining, rest)
		}
		if genus == 0 && !joinsAll(dual, rest) {
			t.Errorf("P2.6 of %v: %d", m, rest)
		}
	}
}

func TestLeastCut(t *testing.T) {
	chance := rand.New(rand.NewSource(3))
	for _, m := range maps() {
		if len(m.Turns) < 2 {
			continue
		}
		ends, _ := Ends(m)
		widths := make([]int, len(ends))
		for p := range widths {
			widths[p] = chance.Intn(6) * 200
		}
		s := chance.Intn(len(m.Turns))
		d := (s + 1 + chance.Intn(len(m.Turns)-1)) % len(m.Turns)
		weigh := func(set int) int {
			sum := 0
			for p, w := range widths {
				sum += w * (set >> p & 1)
			}
			return sum
		}
		least := math.MaxInt
		for set := range 1 << len(ends) {
			if side, is, _ := IsCut(m, set); is && side>>s&1 != side>>d&1 {
				least = min(least, weigh(set))
			}
		}
		cut, sum, e := LeastCut(m, widths, s, d)
		side, is, _ := IsCut(m, cut)
		if e != api.OK || sum != least || weigh(cut) != sum || !is || side>>s&1 == side>>d&1 {
			t.Errorf("LeastCut of %v, %v, %d, %d: %d, %d, want %d", m, widths, s, d, cut, sum, least)
		}
	}
}

func TestCheckGraph(t *testing.T) {
	full := slices.Clone(five)
	full = append(full, [2]int{3, 5}, [2]int{4, 5})
	for _, x := range []struct {
		n     int
		edges [][2]int
		want  api.Errno
	}{
		{0, nil, api.ErrArg}, {8, nil, api.ErrArg}, {math.MinInt, [][2]int{{1, 0}}, api.ErrArg}, {1, nil, api.OK}, {7, nil, api.OK},
		{5, five, api.OK}, {6, full, api.OK}, {7, append(full, [2]int{5, 6}), api.ErrGraph},
		{2, [][2]int{{0, 0}}, api.ErrGraph}, {2, [][2]int{{1, 0}}, api.ErrGraph}, {2, [][2]int{{0, 2}}, api.ErrGraph}, {2, [][2]int{{-1, 0}}, api.ErrGraph},
		{3, [][2]int{{0, 1}, {0, 1}}, api.ErrGraph}, {3, [][2]int{{0, 2}, {0, 1}}, api.ErrGraph},
	} {
		if e := CheckGraph(x.n, x.edges); e != x.want {
			t.Errorf("CheckGraph(%d, %v): %d", x.n, x.edges, e)
		}
		if x.want == api.OK {
			continue
		}
		m, ok, a := Draw(x.n, x.edges)
		is, b := IsDrawing(x.n, x.edges, point)
		knot, tied, c := Knot(x.n, x.edges)
		isKnot, d := IsKnot(x.n, x.edges, nil)
		genus, e := LeastGenus(x.n, x.edges)
		for i, e := range []api.Errno{a, b, c, d, e} {
			if e != x.want {
				t.Errorf("call %d of %d, %v: %d", i, x.n, x.edges, e)
			}
		}
		if m.Turns != nil || ok || is || knot != nil || tied || isKnot || genus != 0 {
			t.Error("results next to an error")
		}
	}
}

// isConnectedGraph walks from node 0.
func isConnectedGraph(n int, edges [][2]int) bool {
	reached := 1
	for range n {
		for _, e := range edges {
			if both := 1<<e[0] | 1<<e[1]; reached&both != 0 {
				reached |= both
			}
		}
	}
	return reached == 1<<n-1
}

func isPlainDrawing(n int, edges [][2]int, m Map) bool {
	ends, e := Ends(m)
	genus, h := Genus(m)
	return e+h == api.OK && genus == 0 && len(m.Turns) == n && slices.Equal(ends, edges)
}

// tied says by the definition whether a list is a knot.
func tied(edges [][2]int, knot []int) bool {
	touch := func(a, b int) bool {
		return slices.ContainsFunc(edges, func(e [2]int) bool {
			return a>>e[0]&1 == 1 && b>>e[1]&1 == 1 || a>>e[1]&1 == 1 && b>>e[0]&1 == 1
		})
	}
	for i, a := range knot {
		for part := 1; part < a; part++ {
			if part&a == part && !touch(part, a&^part) {
				return false
			}
		}
		for k, b := range knot[:i] {
			if a&b != 0 || (len(knot) == 5 || i >= 3 && k < 3) && !touch(a, b) {
				return false
			}
		}
	}
	return (len(knot) == 5 || len(knot) == 6) && !slices.Contains(knot, 0)
}

func checkGraphs(t *testing.T, n int, edges [][2]int) bool {
	m, drawn, e := Draw(n, edges)
	if !isConnectedGraph(n, edges) {
		if drawn || m.Turns != nil || e != api.ErrNone {
			t.Errorf("Draw of %d, %v: %v, %d", n, edges, m, e)
		}
		if is, e := IsDrawing(n, edges, m); is || e != api.OK {
			t.Errorf("IsDrawing of %d, %v: %t, %d", n, edges, is, e)
		}
		return false
	}
	is, h := IsDrawing(n, edges, m)
	if e+h != api.OK || drawn && !isPlainDrawing(n, edges, m) || !drawn && m.Turns != nil || is != drawn {
		t.Errorf("Draw of %d, %v: %v, %t, %t", n, edges, m, drawn, is)
	}
	knot, ok, e := Knot(n, edges)
	is, h = IsKnot(n, edges, knot)
	if ok == drawn || e+h != api.OK || is != ok || ok && !tied(edges, knot) || !ok && knot != nil {
		t.Errorf("Knot of %d, %v: %v, %t, %t", n, edges, knot, ok, is)
	}
	return drawn
}

func TestAllGraphsOfFive(t *testing.T) {
	for set := range 1 << 10 {
		var edges [][2]int
		for e, ends := range five {
			if set>>e&1 == 1 {
				edges = append(edges, ends)
			}
		}
		connected := isConnectedGraph(5, edges)
		if drawn := checkGraphs(t, 5, edges); drawn != (connected && set != 1<<10-1) {
			t.Errorf("Draw of %v: %t", edges, drawn)
		}
		genus, e := LeastGenus(5, edges)
		want := api.OK
		if len(edges) > 8 {
			want = api.ErrArg
		} else if !connected {
			want = api.ErrNone
		}
		if genus != 0 || e != want {
			t.Errorf("LeastGenus of %v: %d, %d", edges, genus, e)
		}
	}
}

func TestGraphs(t *testing.T) {
	chance := rand.New(rand.NewSource(4))
	not := 0
	for range 300 {
		n := 6 + chance.Intn(2)
		var all [][2]int
		for i := range n {
			for k := i + 1; k < n; k++ {
				all = append(all, [2]int{i, k})
			}
		}
		chance.Shuffle(len(all), func(i, k int) { all[i], all[k] = all[k], all[i] })
		edges := all[:9+chance.Intn(4)]
		slices.SortFunc(edges, func(a, b [2]int) int { return slices.Compare(a[:], b[:]) })
		if !checkGraphs(t, n, edges) && isConnectedGraph(n, edges) {
			not++
		}
	}
	if not == 0 {
		t.Error("no graph without a drawing was tried")
	}
	if knot, ok, e := Knot(5, five); !ok || fmt.Sprint(knot) != "[1 2 4 8 16]" || e != api.OK {
		t.Errorf("Knot of five: %v", knot)
	}
	if checkGraphs(t, 6, houses) {
		t.Error("the houses are drawn")
	}
	if m, ok, e := Draw(1, nil); !ok || len(m.Turns) != 1 || len(m.Turns[0]) != 0 || e != api.OK {
		t.Errorf("Draw of a node: %v, %t, %d", m, ok, e)
	}
	// one of the houses is a way of two nodes
	longer := [][2]int{{0, 3}, {0, 4}, {0, 6}, {1, 3}, {1, 4}, {1, 5}, {2, 3}, {2, 4}, {2, 5}, {5, 6}}
	if checkGraphs(t, 7, longer) {
		t.Error("the houses are drawn")
	}
	// a knot beside a node that no edge joins
	if knot, ok, e := Knot(6, five); !ok || !tied(five, knot) || e != api.OK {
		t.Errorf("Knot of five and one: %v", knot)
	}
}

func TestIsKnotAndIsDrawing(t *testing.T) {
	for _, x := range []struct {
		edges [][2]int
		knot  []int
		want  bool
	}{
		{five, []int{1, 2, 4, 8, 16}, true}, {five, []int{16, 8, 4, 2, 1}, true}, {five, nil, false}, {five, []int{1, 2, 4, 8}, false},
		{five, []int{1, 2, 4, 8, 8}, false}, {five, []int{1, 2, 4, 8, 0}, false}, {five, []int{1, 2, 4, 8, 24}, false}, {five, []int{1, 2, 4, 8, 64}, false},
		{five, []int{-1, 2, 4, 8, 16}, false}, {five, []int{1, 2, 4, 8, math.MaxInt}, false}, {five, []int{math.MinInt, 2, 4, 8, 16}, false},
		{houses, []int{1, 2, 4, 8, 16, 32}, true}, {houses, []int{4, 1, 2, 32, 8, 16}, true}, {houses, []int{8, 16, 32, 1, 2, 4}, true},
		{houses, []int{1, 8, 2, 4, 16, 32}, false}, {houses, []int{1, 2, 4, 8, 16}, false}, {houses, []int{1, 2, 4, 8, 16, 32, 0}, false},
		{houses, []int{3, 4, 8, 16, 32}, false}, {houses[1:], []int{1, 2, 4, 8, 16, 32}, false},
	} {
		if is, e := IsKnot(6, x.edges, x.knot); is != x.want || e != api.OK {
			t.Errorf("IsKnot of %v, %v: %t, %d", x.edges, x.knot, is, e)
		}
	}
	triangle := [][2]int{{0, 1}, {0, 2}, {1, 2}}
	for _, x := range []struct {
		m    Map
		want bool
	}{
		{Map{[][]int{{0, 2}, {1, 4}, {3, 5}}}, true}, {Map{[][]int{{2, 0}, {4, 1}, {5, 3}}}, true},
		{Map{[][]int{{0, 2}, {1, 5}, {3, 4}}}, false}, {Map{[][]int{{0, 2}, {1}, {3}}}, false}, {Map{[][]int{{0, 4}, {1, 2}, {3, 5}}}, false},
		{Map{[][]int{{0, 2}, {1, 4}, {3}}}, false}, {Map{}, false}, {point, false},
	} {
		if is, e := IsDrawing(3, triangle, x.m); is != x.want || e != api.OK {
			t.Errorf("IsDrawing of %v: %t, %d", x.m, is, e)
		}
	}
	torus := Map{[][]int{{0, 2, 4}, {1, 6, 8}, {3, 7, 10}, {5, 9, 11}}}
	four := [][2]int{{0, 1}, {0, 2}, {0, 3}, {1, 2}, {1, 3}, {2, 3}}
	genus, _ := Genus(torus)
	if is, e := IsDrawing(4, four, torus); is != (genus == 0) || e != api.OK {
		t.Errorf("IsDrawing of genus %d: %t", genus, is)
	}
	turned := Map{[][]int{{0, 4, 2}, {1, 6, 8}, {3, 7, 10}, {5, 9, 11}}}
	genus, _ = Genus(turned)
	if is, _ := IsDrawing(4, four, turned); is != (genus == 0) {
		t.Errorf("IsDrawing of genus %d: %t", genus, is)
	}
}

func TestMemory(t *testing.T) {
	turns := []int{2, 0, 4, 9}
	m := Map{[][]int{turns[:3], {1, 5, 3}}}
	form, _ := Form(m)
	turned, _ := Turned(m)
	dual, _ := Dual(m)
	for _, x := range []Map{form, turned, dual} {
		for _, turn := range x.Turns {
			for i := range turn {
				turn[i] = 77
			}
			_ = append(turn, 78)
		}
	}
	if !slices.Equal(turns, []int{2, 0, 4, 9}) {
		t.Errorf("the map has changed: %v", turns)
	}
	again, _ := Form(m)
	if !reflect.DeepEqual(again.Turns, [][]int{{0, 4, 2}, {1, 5, 3}}) {
		t.Errorf("Form: %v", again)
	}
}
