package slope

// width is the number of unknowns of an equation (nodes or plates), and 1 for its right side.
const width = 7

// row is an equation: the numbers by which the unknowns are multiplied, and the right side at the end.
type row [width]fraction

// cleared takes so much of another row from a row that nothing is left in a column; the other one has 1 there.
func cleared[R ~[width]fraction](r, other R, column int) R {
	times := r[column]
	for i := range width {
		r[i] = r[i].less(other[i].times(times))
	}
	return r
}

func divided[R ~[width]fraction](r R, by fraction) R {
	for i := range width {
		r[i] = r[i].by(by)
	}
	return r
}

// solved reduces the rows so that as many columns as possible have a single 1, and returns for each such column its row, for the others -1.
func solved[R ~[width]fraction](rows []R) [width - 1]int {
	var at [width - 1]int
	done := 0
columns:
	for column := range at {
		at[column] = -1
		for i := done; i < len(rows); i++ {
			if rows[i][column] == whole(0) {
				continue
			}
			chosen := divided(rows[i], rows[i][column])
			rows[i] = rows[done]
			rows[done] = chosen
			for k := range rows {
				if k != done {
					rows[k] = cleared(rows[k], rows[done], column)
				}
			}
			at[column] = done
			done++
			continue columns
		}
	}
	return at
}

// normal returns the equations of the multiples of some flows whose sum is nearest to a flow.
func normal(flows [][]fraction, flow []fraction) []row {
	out := make([]row, len(flows))
	for i, a := range flows {
		for k := range width {
			out[i][k] = whole(0)
		}
		for k, b := range flows {
			out[i][k] = product(a, b)
		}
		out[i][width-1] = product(a, flow)
	}
	return out
}

// nearest returns the multiples of some flows whose sum is nearest to a flow; those that are not determined are 0.
func nearest(flows [][]fraction, flow []fraction) []fraction {
	rows := normal(flows, flow)
	at := solved(rows)
	out := make([]fraction, len(flows))
	for i := range out {
		out[i] = whole(0)
		if at[i] >= 0 {
			out[i] = rows[at[i]][width-1]
		}
	}
	return out
}

// rank returns how many of some flows are no sums of multiples of others.
func rank(flows [][]fraction, edges int) int {
	out := 0
	for _, row := range solved(normal(flows, wholes(make([]int, edges)))) {
		if row >= 0 {
			out++
		}
	}
	return out
}
