package gang

import (
	"errors"
	"fmt"
	"math/rand"
	"slices"
	"strings"
	"testing"

	"tosher/api"
)

// talk gives lines to a gang, each with the reply that is wanted behind ` = `.
func talk(t *testing.T, g *Gang, lines ...string) {
	t.Helper()
	for _, l := range lines {
		line, want, _ := strings.Cut(l, " = ")
		if got := g.Do(line); got != want {
			t.Errorf("%q: %q, want %q", line, got, want)
		}
	}
}

func TestExamples(t *testing.T) {
	g := New()
	talk(t, g, "edge 0 1 = ok", "edge 1 2 = ok", "edge 2 0 = ok", "colours 3 = colours 54", "acyclic = acyclic 6")
	talk(t, g, "turn 0 2 1 3 = ok", "genus = genus 1", "flow 1 1 1 0 0 = ok", "slope = slope no")
	talk(t, g, "wall 1 0 0 = ok", "wall 0 1 0 = ok", "wall 1 1 1 = ok", "regions = regions 7 1", "at 7 = at 1", "join 3 2 = ok", "vote = vote yes")
	talk(t, g, "order = order 4", "log 8 = log 3", "gate 1 = ok", "gate 1 = ok", "gate 1 = ok", "worst = worst 2", "tell = tell 0 0")
	talk(t, New(), "edge 0 1 = ok", "acyclic = acyclic 2")
}

func TestNewGang(t *testing.T) {
	talk(t, New(), "colours 0 = colours 0", "colours 2 = colours 32", "acyclic = acyclic 1", "genus = genus 0", "slope = slope yes", "sizes = sizes 0/1 0/1 0/1 0/1",
		"regions = error 40", "at 3 = at 0", "vote = error 4", "order = order 4", "log 4 = log 2", "worst = worst 0", "tell = tell 0 0")
	g := New()
	if g.Book() != "" || len(g.Edges()) != 0 || len(g.Costs()) != 0 {
		t.Errorf("a new gang: %q, %v, %v", g.Book(), g.Edges(), g.Costs())
	}
}

func TestLines(t *testing.T) {
	g := New()
	for _, line := range []string{
		" ", "edge", "edge 1", "edge 1 2 3", "edge 1  2", " edge 1 2", "edge 1 2 ", "edge\t1 2", "edge 1\t2", "Edge 1 2", "edge a 2", "edge 01 2", "edge +1 2", "edge -0 2",
		"edge 1.0 2", "edge 1_0 2", "edge 0x1 2", "edge 1000001 0", "edge -1000001 0", "edge 99999999999999999999 0", "edge 1 2\r", "turn a", "flow 1 2 3 4", "flow 1 2 3 4 5 6",
		"wall 1 2", "wall 1 2 3 4", "later", "later 1 1", "join 1", "join 1 1 1", "go 1", "go home", "unit 15", "unit 15 2 2", "gate", "gate 1 1", "wire 0 1", "wire 0 1 2 3",
		"colours", "colours 1 1", "colours x", "acyclic 1", "genus 0", "slope no", "sizes 1", "regions 1", "at", "at 1 1", "at -", "vote 1", "order 1", "log", "log 1 1", "worst 1", "tell 0",
		"hello", "ok", "error 100", "turn -", "edge  ", "\u00e9dge 1 2", "edge \u0661 2", "// edge 1 2", " # no",
		"turn" + strings.Repeat(" 0", 25), "go ", "order ",
	} {
		if got := g.Do(line); got != "error 100" {
			t.Errorf("%q: %q", line, got)
		}
	}
	talk(t, g, "", "#", "# edge 0 1", "#edge", "##  ")
	long := "#" + strings.Repeat("x", 511)
	talk(t, g, long, long+"x = error 2", "edge 0 1\n = error 2", "\n = error 2", "#\n = error 2", strings.Repeat("edge ", 200)+" = error 2")
	if g.Book() != "" {
		t.Errorf("the book: %q", g.Book())
	}
	if got := (*Gang)(nil).Do(long + "x\n"); got != "error 3" {
		t.Errorf("Do of nil: %q", got)
	}
	for _, line := range []string{"", "#", "edge 0 1", "what", "order"} {
		if got := (*Gang)(nil).Do(line); got != "error 3" {
			t.Errorf("Do of nil: %q", got)
		}
	}
}

func TestEdges(t *testing.T) {
	g := New()
	talk(t, g, "edge 5 0 = error 1", "edge 0 5 = error 1", "edge -1 0 = error 1", "edge 0 1000000 = error 1", "edge 4 1 = ok", "edge 0 2 = ok", "edge 2 0 = ok", "edge 3 3 = ok")
	if got := fmt.Sprint(g.Edges()); got != "[[0 2] [0 2] [1 4] [3 3]]" {
		t.Errorf("Edges: %s", got)
	}
	talk(t, g, "colours 3 = colours 0", "acyclic = acyclic 0", "edge 0 0 = ok", "edge 0 1 = ok", "edge 1 2 = ok", "edge 2 3 = ok", "edge 3 4 = ok", "edge 3 4 = error 7", "edge 5 4 = error 1")
	talk(t, New(), "colours -1 = error 1", "colours 11 = error 1", "colours 10 = colours 100000", "colours 1 = colours 1")
	five := New()
	for _, ends := range []string{"3 4", "2 4", "2 3", "1 4", "1 3", "1 2", "0 4", "0 3", "0 2"} {
		talk(t, five, "edge "+ends+" = ok")
	}
	talk(t, five, "colours 10 = colours 35280", "colours 3 = colours 0", "colours 4 = colours 24", "acyclic = acyclic 96")
}

func TestTurnsAndFlows(t *testing.T) {
	g := New()
	all := "turn"
	for d := range 24 {
		all += fmt.Sprint(" ", d)
	}
	talk(t, g, "turn 0 = error 20", "turn 0 2 = error 20", "turn 0 0 = error 20", "turn -1 0 = error 20", "turn 0 1 = ok", "genus = genus 0", "turn 0 2 1 = error 20",
		"turn 0 2 4 1 3 5 = ok", "genus = genus 1", all+" = ok", "genus = genus 0", "turn = ok", "genus = genus 0")
	talk(t, g, "flow 100 -100 0 1 2 = ok", "flow 101 0 0 0 0 = error 1", "flow 0 0 0 0 -101 = error 1", "sizes = sizes 20005/1 40437/8 40000/3 38809/24",
		"flow 1 2 1 2 1 = ok", "slope = slope yes", "sizes = sizes 11/1 11/1 0/1 0/1", "flow 1 1 1 0 0 = ok", "sizes = sizes 3/1 5/2 1/3 1/6")
}

func TestWalls(t *testing.T) {
	g := New()
	talk(t, g, "wall 0 0 1 = error 40", "wall 2 0 0 = error 40", "wall 21 1 0 = error 40", "wall 1 0 0 = ok", "regions = regions 2 0", "wall 1 0 0 = error 40", "wall 1 0 1 = ok",
		"regions = regions 3 0", "wall 0 1 0 = ok", "wall 0 1 1 = ok", "regions = regions 9 1", "wall 1 1 1 = ok", "wall 1 -1 0 = ok", "wall 1 2 20 = ok", "wall 3 2 20 = error 40", "wall 1 2 20 = error 40")
}

func TestSequence(t *testing.T) {
	g := New()
	talk(t, g, "later -1 = error 1", "later 101 = error 1", "at -1 = error 1", "at 0 = at 0", "at 1000000 = at 1", "later 0 = ok", "at 2 = at 1", "later 1 = ok", "at 0 = at 1", "at 1 = at 1", "at 2 = at 0", "later 3 = ok", "at 0 = at 1", "at 1 = at 0", "at 999996 = at 1")
	large := New()
	got := ""
	for range 100 {
		if got = large.Do("later 37"); got != "ok" {
			break
		}
	}
	if got != "error 8" {
		t.Errorf("later: %q", got)
	}
}

func TestCrowd(t *testing.T) {
	g := New()
	talk(t, g, "join -1 2 = error 1", "join 2 -1 = error 1", "join -1 1000000 = error 1", "join 0 0 = ok", "vote = error 4", "join 1 0 = ok", "vote = vote yes", "join 0 1 = ok", "vote = vote no",
		"join 0 1 = ok", "vote = vote no", "join 4 3 = error 7", "join 4 2 = ok", "vote = vote yes", "join 0 0 = ok", "join 1 0 = error 7", "join 0 1000000 = error 7", "go = ok", "vote = error 4",
		"join 10 0 = error 7", "join 9 0 = ok", "vote = vote yes", "go = ok", "go = ok", "join 0 9 = ok", "vote = vote no")
}

func TestUnits(t *testing.T) {
	g := New()
	talk(t, g, "unit 0 0 = error 1", "unit 15 3 = error 70", "unit 15 15 = error 70", "unit 15 -1 = error 70", "order = order 4", "log 3 = error 70", "log 7 = error 4", "log 1 = log 0", "log -1 = error 70",
		"unit 13 2 = ok", "log 3 = log 4", "order = order 12", "unit 1 0 = ok", "order = order 1", "log 0 = log 0", "log 1 = error 70", "unit 1000000 3 = ok", "order = order 50000", "log 27 = log 3")
}

func TestGates(t *testing.T) {
	g := New()
	talk(t, g, "gate 0 = error 80", "gate 1001 = error 80", "gate -1 = error 80", "gate 1000000 = error 80", "gate -1000000 = error 80", "gate 5 = ok", "gate 1 = ok", "worst = worst 6")
	if got := fmt.Sprint(g.Costs()); got != "[5 1]" {
		t.Errorf("Costs: %s", got)
	}
	for range 10 {
		talk(t, g, "gate 1000 = ok")
	}
	talk(t, g, "gate 1000 = error 80", "worst = worst 4000")
}

func TestWires(t *testing.T) {
	g := New()
	talk(t, g, "wire 3 0 0 = error 1", "wire 0 3 0 = error 1", "wire 0 0 4 = error 1", "wire -1 0 0 = error 1", "wire 0 -1 0 = error 1", "wire 0 0 -1 = error 1", "tell = tell 0 0",
		"wire 0 1 3 = ok", "tell = tell 0", "wire 1 0 3 = ok", "tell = error 4", "wire 1 2 3 = ok", "tell = tell 0 0", "wire 2 2 3 = ok", "tell = error 4")
	// each of these makes two states of the new machine equal
	talk(t, New(), "wire 0 0 1 = ok", "tell = error 4")
	talk(t, New(), "wire 1 1 0 = ok", "tell = error 4")
	talk(t, New(), "wire 1 1 1 = ok", "tell = tell 0 0", "wire 2 2 0 = ok", "tell = tell 0 0", "wire 0 0 0 = ok", "tell = error 4")
}

func TestNil(t *testing.T) {
	var g *Gang
	if g.Book() != "" || g.Edges() != nil || g.Costs() != nil || g.Fork() != nil {
		t.Error("nil has something")
	}
}

// someLine returns a line, most often one that is right.
func someLine(chance *rand.Rand) string {
	pick := func(list ...string) string { return list[chance.Intn(len(list))] }
	n := func(low, high int) string { return fmt.Sprint(" ", low+chance.Intn(high-low+1)) }
	switch chance.Intn(24) {
	case 0, 1:
		return "edge" + n(-1, 5) + n(0, 4)
	case 2:
		return pick("turn", "turn 0 1", "turn 0 2 1 3", "turn 0", "turn 0 2 4 1 3 5", "turn 3 1 2 0")
	case 3:
		return "flow" + n(-3, 3) + n(-3, 3) + n(-3, 3) + n(-3, 101) + n(-3, 3)
	case 4, 5:
		return "wall" + n(0, 2) + n(-2, 2) + n(-2, 2)
	case 6:
		return "later" + n(-1, 3)
	case 7:
		return "join" + n(-1, 4) + n(0, 4)
	case 8:
		return pick("go", "go away", "# nothing", "")
	case 9:
		return "unit" + n(1, 30) + n(0, 12)
	case 10:
		return "gate" + n(0, 9)
	case 11, 12:
		return "wire" + n(0, 3) + n(0, 2) + n(0, 3)
	case 13:
		return "colours" + n(-1, 10)
	case 14:
		return "at" + n(-1, 50)
	case 15:
		return "log" + n(0, 12)
	}
	return pick("acyclic", "genus", "slope", "sizes", "regions", "vote", "order", "worst", "tell")
}

// questionsOfAll are all questions.
func questionsOfAll() []string {
	out := []string{"acyclic", "genus", "slope", "sizes", "regions", "vote", "order", "worst", "tell"}
	for n := range 20 {
		out = append(out, fmt.Sprint("colours ", n), fmt.Sprint("at ", n), fmt.Sprint("log ", n))
	}
	return out
}

// state is all that a gang says of itself.
func state(g *Gang) string {
	out := fmt.Sprint(g.Edges(), g.Costs(), g.Book())
	for _, q := range questionsOfAll() {
		out += g.Do(q) + "\n"
	}
	return out
}

func TestBook(t *testing.T) {
	chance := rand.New(rand.NewSource(27))
	for range 60 {
		g, only := New(), New()
		var replies, text strings.Builder
		book := ""
		for range 80 {
			line := someLine(chance)
			got := g.Do(line)
			text.WriteString(line + "\n")
			if got != "" {
				replies.WriteString(got + "\n")
			}
			if got == "ok" {
				book += line + "\n"
				if only.Do(line) != "ok" {
					t.Errorf("P10.5: %q", line)
				}
			}
		}
		if g.Book() != book {
			t.Errorf("Book: %q, want %q", g.Book(), book)
		}
		again := New()
		for line := range strings.SplitSeq(strings.TrimSuffix(book, "\n"), "\n") {
			if got := again.Do(line); got != "ok" && book != "" {
				t.Errorf("P10.4: %q of %q", got, line)
			}
		}
		if state(g) != state(again) || state(g) != state(only) {
			t.Errorf("P10.4 of %q", book)
		}
		out, e := Run(text.String())
		if out != replies.String() || e != api.OK {
			t.Errorf("Run of %q: %q", text.String(), out)
		}
	}
}

func TestFork(t *testing.T) {
	chance := rand.New(rand.NewSource(28))
	for range 30 {
		g := New()
		for range 40 {
			g.Do(someLine(chance))
		}
		before := state(g)
		fork := g.Fork()
		if state(fork) != before {
			t.Errorf("Fork: %q, want %q", state(fork), before)
		}
		other := g.Fork()
		for range 60 {
			fork.Do(someLine(chance))
		}
		if state(g) != before || state(other) != before {
			t.Errorf("the fork has changed the first one: %q, was %q", state(g), before)
		}
		after := state(fork)
		for range 60 {
			g.Do(someLine(chance))
		}
		if state(fork) != after || state(other) != before {
			t.Errorf("the first one has changed the fork: %q, was %q", state(fork), after)
		}
	}
	g := New()
	talk(t, g, "edge 0 1 = ok", "gate 7 = ok")
	g.Edges()[0] = [2]int{4, 4}
	g.Costs()[0] = 9
	if fmt.Sprint(g.Edges(), g.Costs()) != "[[0 1]] [7]" {
		t.Error("results share memory with the gang")
	}
}

func TestOrderOfLines(t *testing.T) {
	chance := rand.New(rand.NewSource(29))
	for range 30 {
		first := New()
		for range 12 {
			first.Do(fmt.Sprintf("edge %d %d", chance.Intn(5), chance.Intn(5)))
			first.Do(fmt.Sprintf("wall %d %d %d", chance.Intn(3), chance.Intn(5)-2, chance.Intn(5)-2))
		}
		lines := strings.Split(strings.TrimSuffix(first.Book(), "\n"), "\n")
		chance.Shuffle(len(lines), func(i, k int) { lines[i], lines[k] = lines[k], lines[i] })
		second := New()
		for _, line := range lines {
			talk(t, second, line+" = ok")
		}
		for _, q := range []string{"colours 2", "colours 3", "colours 7", "acyclic", "regions"} {
			if a, b := first.Do(q), second.Do(q); a != b {
				t.Errorf("P10.6 of %q, %v: %q, %q", q, lines, a, b)
			}
		}
		if !slices.Equal(first.Edges(), second.Edges()) {
			t.Errorf("P10.6 of %v", lines)
		}
	}
}

func TestRun(t *testing.T) {
	for _, x := range []struct {
		text, want string
		e          api.Errno
	}{
		{"", "", api.OK}, {"\n\n", "", api.OK}, {"edge 0 1", "ok\n", api.OK}, {"edge 0 1\n# no\n\nacyclic\nwhat", "ok\nacyclic 2\nerror 100\n", api.OK},
		{"edge 0 1\r\n", "error 100\n", api.OK}, {strings.Repeat("x", 513), "error 2\n", api.OK},
		{strings.Repeat("\n", 2000), "", api.OK}, {strings.Repeat("\n", 2001), "", api.ErrLong},
		{strings.Repeat("#", 65537), "", api.ErrLong}, {strings.Repeat("#", 65536), "error 2\n", api.OK},
		{strings.Repeat("order\n", 2000), strings.Repeat("order 4\n", 2000), api.OK}, {strings.Repeat("order\n", 2000) + "order", strings.Repeat("order 4\n", 2001), api.OK},
	} {
		if out, e := Run(x.text); out != x.want || e != x.e {
			t.Errorf("Run of %.40q: %.80q, %d", x.text, out, e)
		}
	}
}

func TestRefusals(t *testing.T) {
	_, err := New().answer("edge 7 0")
	var f fault
	var r refusal
	if !errors.As(err, &f) || f.code != api.ErrArg || !errors.As(err, &r) || r.text != "edge 7 0" {
		t.Errorf("the error: %v", err)
	}
	if err.Error() != "edge 7 0: error 1" {
		t.Errorf("the error: %v", err)
	}
}
