package lines

import (
	"fmt"
	"math"
	"math/rand"
	"reflect"
	"slices"
	"strings"
	"testing"

	"tosher/api"
)

var (
	three    = [][3]int{{1, 0, 0}, {0, 1, 0}, {1, 1, 1}}
	parallel = [][3]int{{1, 0, 0}, {1, 0, 1}}
	star     = [][3]int{{1, 0, 0}, {0, 1, 0}, {1, 1, 0}, {1, -1, 0}}
	steep    = [][3]int{{20, 19, 18}, {19, 20, -17}, {20, -19, 20}, {1, 0, 20}, {0, 1, -20}, {20, 17, 19}, {19, -18, -20}}
	// all parallel, and unlike each other in their numbers
	rails = [][3]int{{1, 2, -20}, {2, 4, 19}, {4, 8, 1}, {10, 20, 19}, {1, 2, 20}, {3, 6, 1}, {9, 18, -17}}
)

// plans are lists of lines, some by chance.
func plans() [][][3]int {
	out := [][][3]int{three, parallel, star, steep, rails, {{1, 0, 0}}, {{0, 1, -20}}, {{1, 0, 0}, {1, 0, 1}, {0, 1, 0}}}
	chance := rand.New(rand.NewSource(6))
	for len(out) < 150 {
		many, limit := 1+chance.Intn(7), 1+chance.Intn(20)
		var lines [][3]int
		for len(lines) < many {
			p := [2]int{chance.Intn(9) - 4, chance.Intn(9) - 4}
			q := [2]int{chance.Intn(9) - 4, chance.Intn(9) - 4}
			l, e := Line(p, q)
			if chance.Intn(2) == 0 {
				l = [3]int{chance.Intn(2*limit+1) - limit, chance.Intn(2*limit+1) - limit, chance.Intn(2*limit+1) - limit}
				e = Check([][3]int{l})
			}
			if e == api.OK && !slices.Contains(lines, l) {
				lines = append(lines, l)
			}
		}
		out = append(out, lines)
	}
	return out
}

func TestCheck(t *testing.T) {
	many := [][3]int{{1, 0, 0}, {1, 0, 1}, {1, 0, 2}, {1, 0, 3}, {1, 0, 4}, {1, 0, 5}, {1, 0, 6}}
	for _, x := range []struct {
		lines [][3]int
		want  api.Errno
	}{
		{nil, api.ErrLines}, {many, api.OK}, {append(many, [3]int{1, 0, 7}), api.ErrLines}, {three, api.OK},
		{[][3]int{{0, 0, 1}}, api.ErrLines}, {[][3]int{{0, 0, 0}}, api.ErrLines}, {[][3]int{{-1, 0, 0}}, api.ErrLines}, {[][3]int{{0, -1, 0}}, api.ErrLines},
		{[][3]int{{2, 0, 0}}, api.ErrLines}, {[][3]int{{2, 4, 6}}, api.ErrLines}, {[][3]int{{2, 4, 3}}, api.OK}, {[][3]int{{1, -20, 20}}, api.OK},
		{[][3]int{{0, 1, -20}}, api.OK}, {[][3]int{{21, 1, 0}}, api.ErrLines}, {[][3]int{{1, -21, 0}}, api.ErrLines}, {[][3]int{{1, 0, 21}}, api.ErrLines},
		{[][3]int{{1, 0, math.MinInt}}, api.ErrLines}, {[][3]int{{math.MaxInt, 0, 1}}, api.ErrLines}, {[][3]int{{1, 0, 0}, {0, 1, 0}, {1, 0, 0}}, api.ErrLines},
	} {
		if e := Check(x.lines); e != x.want {
			t.Errorf("Check of %v: %d", x.lines, e)
		}
	}
}

// calls calls all functions that take lines.
func calls(lines [][3]int, point [3]int, signs string, line int) ([]any, []api.Errno) {
	crossings, a := Crossings(lines)
	directions, b := Directions(lines)
	regions, c := Regions(lines)
	bounded, d := Bounded(lines)
	polynomial, e := Polynomial(lines)
	ordinary, two, is, f := Ordinary(lines)
	through, g := Through(lines, point)
	of, h := Signs(lines, point)
	isRegion, i := IsRegion(lines, signs)
	inside, ok, j := Inside(lines, signs)
	neighbours, k := Neighbours(lines, signs)
	corners, l := Corners(lines, signs)
	pieces, m := Pieces(lines, line)
	return []any{crossings, directions, regions, bounded, polynomial, ordinary, two, is, through, of, isRegion, inside, ok, neighbours, corners, pieces}, []api.Errno{a, b, c, d, e, f, g, h, i, j, k, l, m}
}

func TestErrors(t *testing.T) {
	values, errors := calls([][3]int{{2, 0, 0}}, [3]int{}, "?", -1)
	for i, v := range values {
		if !reflect.ValueOf(v).IsZero() {
			t.Errorf("result %d: %v", i, v)
		}
	}
	for i, e := range errors {
		if e != api.ErrLines {
			t.Errorf("call %d: %d", i, e)
		}
	}
	for _, p := range [][3]int{{0, 0, 0}, {0, 0, 2}, {2, 4, 6}, {1, 1, -1}, {1000000001, 0, 1}, {0, -1000000001, 1}, {1, 0, 1000000001}, {math.MinInt, 0, 1}, {1, 1, math.MaxInt}, {math.MinInt, math.MinInt, math.MinInt}} {
		if l, e := Through(three, p); l != nil || e != api.ErrArg {
			t.Errorf("Through %v: %d", p, e)
		}
		if s, e := Signs(three, p); s != "" || e != api.ErrArg {
			t.Errorf("Signs of %v: %d", p, e)
		}
	}
	for _, s := range []string{"", "++", "++++", "++0", "+++\n", "++\u00b1", "\u00b1", "+-x"} {
		_, errors := calls(three, [3]int{0, 0, 1}, s, 3)
		for i, e := range errors[8:] {
			if e != api.ErrArg {
				t.Errorf("call %d of %q: %d", i, s, e)
			}
		}
	}
	values, errors = calls(three, [3]int{0, 0, 1}, "--+", -1)
	if fmt.Sprint(values[10:]) != "[false [0 0 0] false [] [] 0]" || fmt.Sprint(errors[8:]) != "[0 0 4 4 1]" {
		t.Errorf("no region: %v, %v", values, errors)
	}
}

func TestLine(t *testing.T) {
	for _, x := range []struct {
		p, q [2]int
		want [3]int
		e    api.Errno
	}{
		{[2]int{0, 0}, [2]int{2, 4}, [3]int{2, -1, 0}, api.OK}, {[2]int{2, 4}, [2]int{0, 0}, [3]int{2, -1, 0}, api.OK},
		{[2]int{1, 1}, [2]int{1, 1}, [3]int{}, api.ErrArg}, {[2]int{5, 1}, [2]int{1, 1}, [3]int{}, api.ErrArg}, {[2]int{1, 1}, [2]int{1, -5}, [3]int{}, api.ErrArg},
		{[2]int{math.MinInt, 1}, [2]int{1, math.MaxInt}, [3]int{}, api.ErrArg}, {[2]int{-4, 3}, [2]int{4, 3}, [3]int{0, 1, 3}, api.OK},
		{[2]int{-4, 3}, [2]int{-4, -3}, [3]int{1, 0, -4}, api.OK}, {[2]int{-4, 4}, [2]int{3, -4}, [3]int{8, 7, -4}, api.OK},
		{[2]int{4, -3}, [2]int{-3, 3}, [3]int{6, 7, 3}, api.OK}, {[2]int{-4, -4}, [2]int{3, 4}, [3]int{8, -7, -4}, api.OK},
		{[2]int{4, 1}, [2]int{1, 4}, [3]int{1, 1, 5}, api.OK}, {[2]int{4, 3}, [2]int{3, -4}, [3]int{}, api.ErrNone},
	} {
		if l, e := Line(x.p, x.q); l != x.want || e != x.e {
			t.Errorf("Line of %v, %v: %v, %d", x.p, x.q, l, e)
		}
	}
	for i := range 6561 {
		p, q := [2]int{i%9 - 4, i/9%9 - 4}, [2]int{i/81%9 - 4, i/729 - 4}
		l, e := Line(p, q)
		if e != api.OK {
			continue
		}
		if Check([][3]int{l}) != api.OK || l[0]*p[0]+l[1]*p[1] != l[2] || l[0]*q[0]+l[1]*q[1] != l[2] {
			t.Errorf("Line of %v, %v: %v", p, q, l)
		}
	}
}

func on(l, p [3]int) bool {
	return l[0]*p[0]+l[1]*p[1] == l[2]*p[2]
}

// sumOf returns, for all crossings, the number of lines less 1, added up, by the pairs of lines.
func sumOf(lines [][3]int) (crossings, sum int) {
	var met [][3]int
	for i, l := range lines {
		for _, m := range lines[:i] {
			d := l[0]*m[1] - l[1]*m[0]
			if d == 0 {
				continue
			}
			p := [3]int{l[2]*m[1] - m[2]*l[1], l[0]*m[2] - m[0]*l[2], d}
			if !slices.ContainsFunc(met, func(q [3]int) bool { return p[0]*q[2] == q[0]*p[2] && p[1]*q[2] == q[1]*p[2] }) {
				met = append(met, p)
			}
		}
	}
	for _, p := range met {
		sum--
		for _, l := range lines {
			if on(l, p) {
				sum++
			}
		}
	}
	return len(met), sum
}

func TestCrossings(t *testing.T) {
	for _, lines := range plans() {
		points, e := Crossings(lines)
		many, sum := sumOf(lines)
		if len(points) != many || e != api.OK {
			t.Errorf("Crossings of %v: %v", lines, points)
		}
		for i, p := range points {
			through, e := Through(lines, p)
			var want []int
			for k, l := range lines {
				if on(l, p) {
					want = append(want, k)
				}
			}
			if !slices.Equal(through, want) || len(want) < 2 || e != api.OK {
				t.Errorf("Through of %v, %v: %v", lines, p, through)
			}
			if i == 0 {
				continue
			}
			q := points[i-1]
			if x := q[0]*p[2] - p[0]*q[2]; x > 0 || x == 0 && q[1]*p[2] >= p[1]*q[2] {
				t.Errorf("Crossings of %v: %v", lines, points)
			}
		}
		all := 0
		for k, l := range lines {
			want := 1
			for _, p := range points {
				if on(l, p) {
					want++
				}
			}
			pieces, e := Pieces(lines, k)
			if pieces != want || e != api.OK {
				t.Errorf("Pieces of %v at %d: %d", lines, k, pieces)
			}
			all += pieces
		}
		regions, _ := Regions(lines)
		if all-len(points)+1 != len(regions) {
			t.Errorf("P4.7 of %v: %d, %d, %d", lines, all, len(points), len(regions))
		}
		polynomial, e := Polynomial(lines)
		if !slices.Equal(polynomial, []int{sum, -len(lines), 1}) || e != api.OK {
			t.Errorf("Polynomial of %v: %v", lines, polynomial)
		}
	}
	if p, _ := Crossings(three); fmt.Sprint(p) != "[[0 0 1] [0 1 1] [1 0 1]]" {
		t.Errorf("Crossings of three lines: %v", p)
	}
	if l, _ := Through(three, [3]int{5, 7, 3}); l != nil {
		t.Errorf("Through of a point on no line: %v", l)
	}
}

func TestDirections(t *testing.T) {
	for _, lines := range plans() {
		directions, e := Directions(lines)
		seen := 0
		for i, d := range directions {
			seen += len(d)
			for _, k := range d {
				for m, l := range lines {
					isParallel := l[0]*lines[k][1] == l[1]*lines[k][0]
					if isParallel != slices.Contains(d, m) {
						t.Errorf("Directions of %v: %v", lines, directions)
					}
				}
			}
			if !slices.IsSorted(d) || i > 0 && slices.Compare(directions[i-1], d) >= 0 {
				t.Errorf("Directions of %v: %v", lines, directions)
			}
		}
		if seen != len(lines) || e != api.OK {
			t.Errorf("Directions of %v: %v", lines, directions)
		}
	}
}

func TestSigns(t *testing.T) {
	for _, x := range []struct {
		p    [3]int
		want string
	}{{[3]int{0, 0, 1}, "00-"}, {[3]int{1, 1, 4}, "++-"}, {[3]int{1, 1, 2}, "++0"}, {[3]int{-3, 1, 1}, "-+-"}, {[3]int{1000000000, -1000000000, 1}, "+--"}, {[3]int{1, 999999999, 1000000000}, "++0"}} {
		if s, e := Signs(three, x.p); s != x.want || e != api.OK {
			t.Errorf("Signs of %v: %s", x.p, s)
		}
	}
	if s, e := Signs([][3]int{{20, 20, -1}}, [3]int{-1000000000, -999999999, 1000000000}); s != "-" || e != api.OK {
		t.Errorf("Signs: %s, %d", s, e)
	}
}

// all returns all strings of signs, in order.
func all(many int) []string {
	out := []string{""}
	for range many {
		var longer []string
		for _, s := range out {
			longer = append(longer, s+"+", s+"-")
		}
		out = longer
	}
	return out
}

func TestRegions(t *testing.T) {
	for _, lines := range plans() {
		_, sum := sumOf(lines)
		regions, e := Regions(lines)
		if len(regions) != 1+len(lines)+sum || e != api.OK || !slices.IsSorted(regions) {
			t.Errorf("Regions of %v: %v", lines, regions)
		}
		for _, s := range all(len(lines)) {
			is, e := IsRegion(lines, s)
			p, ok, f := Inside(lines, s)
			if is != slices.Contains(regions, s) || ok != is || e+f != api.OK {
				t.Errorf("IsRegion of %v, %s: %t, %t", lines, s, is, ok)
			}
			if of, e := Signs(lines, p); ok && (of != s || e != api.OK) || !ok && p != [3]int{} {
				t.Errorf("Inside of %v, %s: %v", lines, s, p)
			}
		}
		bounded, e := Bounded(lines)
		directions, _ := Directions(lines)
		want := 0
		if len(directions) > 1 {
			want = 1 - len(lines) + sum
		}
		if len(bounded) != want || e != api.OK || !slices.IsSorted(bounded) {
			t.Errorf("Bounded of %v: %v", lines, bounded)
		}
		for _, s := range bounded {
			corners, _ := Corners(lines, s)
			if !slices.Contains(regions, s) || len(corners) < 3 {
				t.Errorf("Bounded of %v: %s", lines, s)
			}
		}
	}
	if b, _ := Bounded(three); fmt.Sprint(b) != "[++-]" {
		t.Errorf("Bounded of three lines: %v", b)
	}
	if r, _ := Regions(parallel); fmt.Sprint(r) != "[++ +- --]" {
		t.Errorf("Regions of parallel lines: %v", r)
	}
	if b, e := Bounded(parallel); len(b) != 0 || e != api.OK {
		t.Errorf("Bounded of parallel lines: %v", b)
	}
}

func TestNeighboursAndCorners(t *testing.T) {
	for _, lines := range plans() {
		regions, _ := Regions(lines)
		points, _ := Crossings(lines)
		near := map[string][]string{}
		for _, s := range regions {
			neighbours, e := Neighbours(lines, s)
			var want []string
			for _, other := range regions {
				if way(s, other) == 1 {
					want = append(want, other)
				}
			}
			if !slices.Equal(neighbours, want) || e != api.OK {
				t.Errorf("Neighbours of %v, %s: %v", lines, s, neighbours)
			}
			near[s] = neighbours
			corners, e := Corners(lines, s)
			var at [][3]int
			for _, p := range points {
				of, _ := Signs(lines, p)
				fits := true
				for i := range of {
					fits = fits && (of[i] == '0' || of[i] == s[i])
				}
				if fits {
					at = append(at, p)
				}
			}
			if !slices.Equal(corners, at) || e != api.OK {
				t.Errorf("Corners of %v, %s: %v", lines, s, corners)
			}
		}
		first := regions[0]
		far := map[string]int{first: 0}
		for queue := []string{first}; len(queue) > 0; queue = queue[1:] {
			for _, s := range near[queue[0]] {
				if _, ok := far[s]; !ok {
					far[s] = far[queue[0]] + 1
					queue = append(queue, s)
				}
			}
		}
		for _, s := range regions {
			if steps, ok := far[s]; !ok || steps != way(first, s) {
				t.Errorf("P4.7 of %v: from %s to %s in %d", lines, first, s, steps)
			}
		}
	}
}

func TestOrdinary(t *testing.T) {
	for _, lines := range plans() {
		points, _ := Crossings(lines)
		directions, _ := Directions(lines)
		ordinary := func(p [3]int) bool {
			l, _ := Through(lines, p)
			return len(l) == 2
		}
		inPoints := slices.ContainsFunc(points, ordinary)
		inDirections := slices.ContainsFunc(directions, func(d []int) bool { return len(d) == 2 })
		p, two, ok, e := Ordinary(lines)
		if ok != (inPoints || inDirections) || e != api.OK || !ok && two != nil {
			t.Errorf("Ordinary of %v: %v, %v, %t", lines, p, two, ok)
		}
		through, _ := Through(lines, p)
		switch {
		case inPoints:
			if !slices.Contains(points, p) || !slices.Equal(through, two) || len(two) != 2 {
				t.Errorf("Ordinary of %v: %v, %v", lines, p, two)
			}
		case inDirections:
			isTwo := func(d []int) bool { return slices.Equal(d, two) }
			if p != [3]int{} || len(two) != 2 || !slices.ContainsFunc(directions, isTwo) {
				t.Errorf("Ordinary of %v: %v, %v", lines, p, two)
			}
		}
		one := len(points) == 1 && strings.Count(fmt.Sprint(directions), "[") == len(lines)+1
		if len(directions) > 1 && !one && !ok {
			t.Errorf("P4.6 of %v", lines)
		}
	}
	if p, two, ok, _ := Ordinary(parallel); p != [3]int{} || fmt.Sprint(two) != "[0 1]" || !ok {
		t.Errorf("Ordinary of parallel lines: %v, %v, %t", p, two, ok)
	}
	if p, two, ok, _ := Ordinary(star); p != [3]int{} || two != nil || ok {
		t.Errorf("Ordinary of a star: %v, %v, %t", p, two, ok)
	}
}

func TestMemory(t *testing.T) {
	lines := append(slices.Clone(three), [3]int{9, 9, 9})[:3]
	calls(lines, [3]int{0, 0, 1}, "++-", 0)
	if !slices.Equal(lines[:4], append(slices.Clone(three), [3]int{9, 9, 9})) {
		t.Errorf("the lines have changed: %v", lines[:4])
	}
	a, _ := Directions(lines)
	b, _ := Directions(lines)
	a[0][0] = 7
	if reflect.DeepEqual(a, b) {
		t.Error("results share memory")
	}
}
