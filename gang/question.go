package gang

import (
	"strconv"

	"tosher/api"
	"tosher/auto"
	"tosher/lines"
	"tosher/logs"
	"tosher/net"
	"tosher/plane"
	"tosher/probe"
	"tosher/search"
	"tosher/slope"
	"tosher/tally"
)

const maxColours = 10

// told returns a reply of a word and some numbers, or nothing next to an error.
func told(e api.Errno, word string, numbers ...int) (string, api.Errno) {
	if e != api.OK {
		return "", e
	}
	words := []string{word}
	for _, n := range numbers {
		words = append(words, strconv.Itoa(n))
	}
	return reply(words...), api.OK
}

func yesOrNo(word string, is bool) string {
	if is {
		return reply(word, "yes")
	}
	return reply(word, "no")
}

func (g *Gang) colours(q int) (string, api.Errno) {
	if q < 0 || q > maxColours {
		return "", api.ErrArg
	}
	polynomial, e := net.Colours(nodes, g.edges)
	value, power := 0, 1
	for _, factor := range polynomial {
		value += int(factor) * power
		power *= q
	}
	return told(e, "colours", value)
}

func (g *Gang) acyclic() (string, api.Errno) {
	many, e := net.CountAcyclic(nodes, g.edges)
	return told(e, "acyclic", many)
}

func (g *Gang) genus() (string, api.Errno) {
	genus, e := plane.Genus(mapOf(g.darts))
	return told(e, "genus", genus)
}

// ground is that on which all flows are.
func ground() slope.Ground {
	return slope.Ground{
		N:      4,
		Edges:  [][2]int{{0, 1}, {0, 2}, {1, 2}, {1, 3}, {2, 3}},
		Plates: [][3]int{{0, 1, 2}},
	}
}

func (g *Gang) slope() (string, api.Errno) {
	_, ok, e := slope.Heights(ground(), g.flows)
	if e != api.OK {
		return "", e
	}
	return yesOrNo("slope", ok), api.OK
}

func (g *Gang) sizes() (string, api.Errno) {
	sizes, e := slope.Sizes(ground(), g.flows)
	if e != api.OK {
		return "", e
	}
	words := []string{"sizes"}
	for _, size := range sizes {
		words = append(words, strconv.FormatInt(size[0], 10)+"/"+strconv.FormatInt(size[1], 10))
	}
	return reply(words...), api.OK
}

func (g *Gang) regions() (string, api.Errno) {
	all, e := lines.Regions(g.walls)
	if e != api.OK {
		return "", e
	}
	bounded, e := lines.Bounded(g.walls)
	return told(e, "regions", len(all), len(bounded))
}

func (g *Gang) at(n int) (string, api.Errno) {
	out, e := auto.At(g.sequence, int64(n))
	return told(e, "at", out)
}

func (g *Gang) vote() (string, api.Errno) {
	if g.crowd == [2]int{} {
		return "", api.ErrNone
	}
	crowd, e := tally.Crowd(tally.Majority(), g.crowd[:])
	if e != api.OK {
		return "", e
	}
	vote, _, e := tally.Decides(tally.Majority(), crowd)
	if e != api.OK {
		return "", e
	}
	return yesOrNo("vote", vote == 1), api.OK
}

func (g *Gang) order() (string, api.Errno) {
	order, e := logs.Order(g.modulus, g.base)
	return told(e, "order", order)
}

func (g *Gang) log(h int) (string, api.Errno) {
	x, ok, e := logs.Log(g.modulus, g.base, h)
	if e == api.OK && !ok {
		e = api.ErrNone
	}
	return told(e, "log", x)
}

func (g *Gang) worst() (string, api.Errno) {
	price, _, e := search.Worst(g.costs)
	return told(e, "worst", price)
}

// machine is that of three states with one input.
func (g *Gang) machine() probe.Machine {
	var m probe.Machine
	for state := range states {
		m.Next = append(m.Next, []int{g.next[state]})
		m.Out = append(m.Out, []int{g.out[state]})
	}
	return m
}

func (g *Gang) tell() (string, api.Errno) {
	word, ok, e := probe.Beginning(g.machine())
	if e == api.OK && !ok {
		e = api.ErrNone
	}
	return told(e, "tell", word...)
}
