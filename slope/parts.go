package slope

// units returns the flows that a rule makes of lists of numbers of which just one is 1, the others 0.
func units(many int, rule func([]int) []int) [][]fraction {
	out := make([][]fraction, many)
	for i := range out {
		list := make([]int, many)
		list[i] = 1
		out[i] = wholes(rule(list))
	}
	return out
}

func (g Ground) gradients() [][]fraction {
	return units(g.N, g.gradient)
}

func (g Ground) swirls() [][]fraction {
	return units(len(g.Plates), g.swirl)
}

// mixed adds up multiples of flows.
func mixed(flows [][]fraction, times []fraction, edges int) []fraction {
	out := make([]fraction, edges)
	for e := range out {
		terms := make([]fraction, len(flows))
		for i, flow := range flows {
			terms[i] = flow[e].times(times[i])
		}
		out[e] = sum(terms...)
	}
	return out
}

// projection returns the sum of multiples of flows that is nearest to a flow.
func projection(flows [][]fraction, flow []fraction) []fraction {
	return mixed(flows, nearest(flows, flow), len(flow))
}

// parts needs no third projection: gradients and swirls are at right angles.
func (g Ground) parts(flow []int) [3][]fraction {
	all := wholes(flow)
	down := projection(g.gradients(), all)
	round := projection(g.swirls(), all)
	calm := make([]fraction, len(all))
	for e, f := range all {
		calm[e] = f.less(down[e]).less(round[e])
	}
	return [3][]fraction{down, round, calm}
}

// best returns the heights of the gradient part, moved so that those of each piece add up to 0.
func (g Ground) best(flow []int) []fraction {
	out := nearest(g.gradients(), wholes(flow))
	for _, piece := range g.pieces() {
		var heights []fraction
		for _, node := range piece {
			heights = append(heights, out[node])
		}
		mean := sum(heights...).by(whole(len(piece)))
		for _, node := range piece {
			out[node] = out[node].less(mean)
		}
	}
	return out
}
