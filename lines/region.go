package lines

import (
	"iter"
)

// sign returns the character for what a line says.
func sign(says int) rune {
	switch {
	case says > 0:
		return '+'
	case says < 0:
		return '-'
	}
	return '0'
}

// signs joins what several lines say of a point.
func signs(p point, says ...func(point) int) string {
	var out []byte
	for _, of := range says {
		out = append(out, byte(sign(of(p))))
	}
	return string(out)
}

// sayings returns what each line says.
func sayings(all []line) []func(point) int {
	var out []func(point) int
	for _, l := range all {
		out = append(out, l.says)
	}
	return out
}

// isOutside says whether a line has the point on the other side than the region with these signs; a point on the border is not outside.
func isOutside(all []line, region string, p point) bool {
	for i, want := range region {
		if s := all[i].says(p); s != 0 && sign(s) != want {
			return true
		}
	}
	return false
}

// marks returns points and directions among which are all corners of each region, all directions in which it goes on without end, and, where all lines are parallel, a point of each border.
func marks(all []line) []point {
	out := crossings(all)
	for _, l := range all {
		ends, sides := l.ends(), l.sides()
		out = append(out, l.foot(), ends[0], ends[1], sides[0], sides[1])
	}
	return out
}

// finder returns a function that finds a point of the region with some signs. The marks that are not outside of a region, added up with their denominators as weights, lie inside, as it has no borders but those between them.
func finder(all []line) func(region string) (point, bool) {
	marks, says := marks(all), sayings(all)
	return func(region string) (point, bool) {
		var sum point
	next:
		for _, m := range marks {
			for i, want := range region {
				if s := says[i](m); s != 0 && sign(s) != want {
					continue next
				}
			}
			sum = point{sum.x + m.x, sum.y + m.y, sum.d + m.d}
		}
		if sum.d == 0 || signs(sum, says...) != region {
			return point{}, false
		}
		return pointAt(sum.x, sum.y, sum.d), true
	}
}

// signStrings yields all strings of so many signs without `0`, in order.
func signStrings(many int) iter.Seq[string] {
	return func(yield func(string) bool) {
		for set := range 1 << many {
			out := make([]byte, many)
			for i := range out {
				out[i] = '+'
				if set>>(many-1-i)&1 == 1 {
					out[i] = '-'
				}
			}
			if !yield(string(out)) {
				return
			}
		}
	}
}

func regions(all []line) []string {
	find := finder(all)
	var out []string
	for region := range signStrings(len(all)) {
		if _, ok := find(region); ok {
			out = append(out, region)
		}
	}
	return out
}

// isBounded takes it that there is such a region: it goes on without end just if it does so along a line.
func isBounded(all []line, region string) bool {
	for _, l := range all {
		for _, end := range l.ends() {
			if !isOutside(all, region, end) {
				return false
			}
		}
	}
	return true
}

// way returns the number of characters that differ.
func way(a, b string) int {
	out := 0
	for i := range a {
		if a[i] != b[i] {
			out++
		}
	}
	return out
}
