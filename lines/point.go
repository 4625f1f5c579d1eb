package lines

import (
	"cmp"
	"iter"
	"slices"
)

// point is the point x / d, y / d in lowest terms; where d is 0, it is what lies endlessly far in the direction x, y.
type point struct{ x, y, d int }

// line has the points with a x + b y = c.
type line [3]int

// divisor returns the greatest common divisor, 0 if all numbers are 0.
func divisor[T int | int64](numbers ...T) T {
	var out T
	for _, n := range numbers {
		for n != 0 {
			out, n = n, out%n
		}
	}
	return max(out, -out)
}

// lowest divides numbers that are not all 0 by what they have in common.
func lowest[T int | int64](numbers ...T) []T {
	by := divisor(numbers...)
	out := make([]T, len(numbers))
	for i, n := range numbers {
		out[i] = n / by
	}
	return out
}

// pointAt needs d to be other than 0.
func pointAt(x, y, d int) point {
	if d < 0 {
		x, y, d = -x, -y, -d
	}
	n := lowest(x, y, d)
	return point{n[0], n[1], n[2]}
}

// lineOf needs a and b not to be both 0.
func lineOf(a, b, c int) line {
	if a < 0 || a == 0 && b < 0 {
		a, b, c = -a, -b, -c
	}
	n := lowest(a, b, c)
	return line{n[0], n[1], n[2]}
}

// says is greater than 0, 0 or less, as a x + b y - c is.
func (l line) says(p point) int {
	return cmp.Compare(l[0]*p.x+l[1]*p.y, l[2]*p.d)
}

func (l line) isOn(p point) bool {
	return l.says(p) == 0
}

// across is 0 if the lines are parallel.
func (l line) across(m line) int {
	return l[0]*m[1] - m[0]*l[1]
}

func (l line) crossing(m line) point {
	return pointAt(l[2]*m[1]-m[2]*l[1], l[0]*m[2]-m[0]*l[2], l.across(m))
}

// foot is the point of the line that is nearest to 0, 0.
func (l line) foot() point {
	return pointAt(l[0]*l[2], l[1]*l[2], l[0]*l[0]+l[1]*l[1])
}

// ends are the two directions of the line.
func (l line) ends() [2]point {
	return [2]point{{l[1], -l[0], 0}, {-l[1], l[0], 0}}
}

// sides are the two directions away from the line.
func (l line) sides() [2]point {
	return [2]point{{l[0], l[1], 0}, {-l[0], -l[1], 0}}
}

// meetings yields the crossing of each two lines that are not parallel.
func meetings(all []line) iter.Seq[point] {
	return func(yield func(point) bool) {
		for i, l := range all {
			for _, m := range all[:i] {
				if l.across(m) != 0 && !yield(l.crossing(m)) {
					return
				}
			}
		}
	}
}

func comparePoints(p, q point) int {
	return cmp.Or(cmp.Compare(p.x*q.d, q.x*p.d), cmp.Compare(p.y*q.d, q.y*p.d))
}

// crossings returns each crossing once, in order.
func crossings(all []line) []point {
	met := map[point]bool{}
	var out []point
	for p := range meetings(all) {
		if !met[p] {
			met[p] = true
			out = append(out, p)
		}
	}
	slices.SortFunc(out, comparePoints)
	return out
}

// which returns the indices of the lines of which something is true.
func which(all []line, is func(line) bool) []int {
	var out []int
	for i, l := range all {
		if is(l) {
			out = append(out, i)
		}
	}
	return out
}

func through(all []line, p point) []int {
	return which(all, func(l line) bool { return l.isOn(p) })
}

// directions returns each direction once, by its lines.
func directions(all []line) [][]int {
	var out [][]int
	for i, l := range all {
		parallel := which(all, func(m line) bool { return l.across(m) == 0 })
		if parallel[0] == i {
			out = append(out, parallel)
		}
	}
	return out
}
