package probe

import (
	"fmt"
	"math"
	"math/rand"
	"reflect"
	"slices"
	"testing"

	"tosher/api"
)

var (
	two   = Machine{[][]int{{1}, {0}}, [][]int{{0}, {1}}}
	dumb  = Machine{[][]int{{0}, {1}}, [][]int{{0}, {0}}}
	one   = Machine{[][]int{{0, 0}}, [][]int{{2, 3}}}
	three = Machine{[][]int{{1}, {2}, {0}}, [][]int{{0}, {0}, {1}}}
)

// some returns a machine that is made by chance.
func some(chance *rand.Rand, states, inputs, outs int) Machine {
	var m Machine
	for range states {
		var next, out []int
		for range inputs {
			next, out = append(next, chance.Intn(states)), append(out, chance.Intn(outs))
		}
		m.Next, m.Out = append(m.Next, next), append(m.Out, out)
	}
	return m
}

// turning returns a machine whose inputs all lead from different states to different ones: its words may be long.
func turning(chance *rand.Rand, states, inputs int) Machine {
	m := some(chance, states, inputs, 2)
	for input := range inputs {
		for s, to := range chance.Perm(states) {
			m.Next[s][input], m.Out[s][input] = to, 0
		}
		m.Out[chance.Intn(states)][input] = 1
	}
	return m
}

func machines() []Machine {
	out := []Machine{two, dumb, one, three}
	chance := rand.New(rand.NewSource(24))
	for i := range 150 {
		out = append(out, some(chance, 1+i%6, 1+chance.Intn(3), 2+chance.Intn(3)), turning(chance, 2+i%5, 1+chance.Intn(3)))
	}
	return out
}

// all returns all machines of a size.
func all(states, inputs, outs int) []Machine {
	var list []Machine
	many := 1
	for range states * inputs {
		many *= states * outs
	}
	for code := range many {
		m := some(rand.New(rand.NewSource(1)), states, inputs, outs)
		left := code
		for s := range states {
			for x := range inputs {
				m.Next[s][x], m.Out[s][x] = left%states, left/states%outs
				left /= states * outs
			}
		}
		list = append(list, m)
	}
	return list
}

func say(m Machine, state int, word []int) (string, int) {
	out := ""
	for _, x := range word {
		out += fmt.Sprint(m.Out[state][x])
		state = m.Next[state][x]
	}
	return out, state
}

// words returns all words of so many inputs.
func words(inputs, length int) [][]int {
	out := [][]int{nil}
	for range length {
		var longer [][]int
		for _, word := range out {
			for x := range inputs {
				longer = append(longer, append(slices.Clone(word), x))
			}
		}
		out = longer
	}
	return out
}

func none(t *testing.T, name string, want, e api.Errno, values ...any) {
	t.Helper()
	if e != want {
		t.Errorf("%s: the error %d, want %d", name, e, want)
	}
	for _, v := range values {
		if !reflect.ValueOf(v).IsZero() {
			t.Errorf("%s: %v next to an error", name, v)
		}
	}
}

func TestCheck(t *testing.T) {
	for _, m := range append(machines(), some(rand.New(rand.NewSource(1)), 6, 3, 4)) {
		if e := Check(m); e != api.OK {
			t.Errorf("Check of %v: %d", m, e)
		}
	}
	for _, m := range []Machine{
		{}, {[][]int{{0}}, nil}, {nil, [][]int{{0}}}, {[][]int{{}}, [][]int{{}}}, {[][]int{{0, 0, 0, 0}}, [][]int{{0, 0, 0, 0}}}, {[][]int{{1}}, [][]int{{0}}},
		{[][]int{{-1}}, [][]int{{0}}}, {[][]int{{0}}, [][]int{{4}}}, {[][]int{{0}}, [][]int{{-1}}}, {[][]int{{0}, {0, 1}}, [][]int{{0}, {0}}}, {[][]int{{0}, {0}}, [][]int{{0}, {0, 1}}},
		{[][]int{{0}, {0}}, [][]int{{0}}}, {[][]int{{0}, nil}, [][]int{{0}, nil}}, {[][]int{{0, 0}}, [][]int{{0}}}, {[][]int{{math.MaxInt}}, [][]int{{0}}}, {[][]int{{0}}, [][]int{{math.MinInt}}},
		some(rand.New(rand.NewSource(1)), 7, 1, 2),
	} {
		if e := Check(m); e != api.ErrProbe {
			t.Errorf("Check of %v: %d", m, e)
		}
	}
}

func TestErrors(t *testing.T) {
	bad := Machine{}
	leaf := Plan{Leaf: true}
	check := func(m Machine, s int, word []int, set int, want api.Errno) {
		t.Helper()
		l, n, e := Say(m, s, word)
		none(t, "Say", want, e, l, n)
		is, e := TellsState(m, s, word)
		none(t, "TellsState", want, e, is)
		if want == api.ErrProbe || s == 0 {
			is, e = TellsEnd(m, word)
			none(t, "TellsEnd", want, e, is)
			is, e = TellsBeginning(m, word)
			none(t, "TellsBeginning", want, e, is)
			n, is, e = Passes(m, two, [][]int{{0}, word})
			none(t, "Passes", want, e, n, is)
		}
		if want == api.ErrProbe || s != 0 {
			l, is, e = Apart(m, s, 0)
			none(t, "Apart s", want, e, l, is)
			l, is, e = Apart(m, 0, s)
			none(t, "Apart t", want, e, l, is)
			l, is, e = State(m, s)
			none(t, "State", want, e, l, is)
		}
		is, e = Tells(m, set, leaf)
		none(t, "Tells", want, e, is)
	}
	check(bad, 0, nil, 1, api.ErrProbe)
	check(bad, -1, []int{9}, 0, api.ErrProbe)
	for _, s := range []int{-1, 2, math.MinInt, math.MaxInt} {
		check(two, s, nil, 0, api.ErrArg)
	}
	for _, word := range [][]int{{1}, {-1}, {0, math.MaxInt}, {math.MinInt}, make([]int, 101)} {
		check(two, 0, word, 4, api.ErrArg)
	}
	for _, set := range []int{0, -1, 4, math.MinInt, math.MaxInt} {
		is, e := Tells(two, set, leaf)
		none(t, "Tells", api.ErrArg, e, is)
	}
	l, e := Alike(bad)
	none(t, "Alike", api.ErrProbe, e, l)
	m, e := Form(bad)
	none(t, "Form", api.ErrProbe, e, m)
	l, is, e := End(bad)
	none(t, "End", api.ErrProbe, e, l, is)
	l, is, e = Beginning(bad)
	none(t, "Beginning", api.ErrProbe, e, l, is)
	p, is, e := Ask(bad)
	none(t, "Ask", api.ErrProbe, e, p, is)
	s, e := Suite(bad)
	none(t, "Suite", api.ErrProbe, e, s)
	for _, x := range []struct {
		a, b Machine
		want api.Errno
	}{{bad, two, api.ErrProbe}, {two, bad, api.ErrProbe}, {one, bad, api.ErrProbe}, {one, two, api.ErrArg}} {
		l, is, e := Same(x.a, x.b)
		none(t, "Same", x.want, e, l, is)
		n, is, e := Passes(x.a, x.b, [][]int{{7}})
		none(t, "Passes", x.want, e, n, is)
	}
}

func TestSay(t *testing.T) {
	chance := rand.New(rand.NewSource(25))
	for _, m := range machines() {
		word := make([]int, chance.Intn(101))
		for i := range word {
			word[i] = chance.Intn(len(m.Next[0]))
		}
		for s := range m.Next {
			out, to, e := Say(m, s, word)
			want, end := say(m, s, word)
			got := ""
			for _, o := range out {
				got += fmt.Sprint(o)
			}
			if got != want || to != end || e != api.OK {
				t.Errorf("Say of %v, %d, %v: %v, %d", m, s, word, out, to)
			}
		}
	}
	if out, to, e := Say(two, 1, make([]int, 100)); len(out) != 100 || to != 1 || e != api.OK {
		t.Errorf("Say of a hundred: %d, %d", len(out), to)
	}
}

// differing returns the least length of a word that parts states of two machines, -1 if there is none.
func differing(a, b Machine) [][]int {
	out := make([][]int, len(a.Next))
	for s := range out {
		out[s] = slices.Repeat([]int{-1}, len(b.Next))
	}
	for length := 1; length <= len(a.Next)+len(b.Next); length++ {
		for s := range out {
			for u := range out[s] {
				for x := range a.Next[s] {
					far := out[a.Next[s][x]][b.Next[u][x]]
					if out[s][u] < 0 && (a.Out[s][x] != b.Out[u][x] || far > 0 && far < length) {
						out[s][u] = length
					}
				}
			}
		}
	}
	return out
}

func TestEqual(t *testing.T) {
	for _, m := range machines() {
		lengths := differing(m, m)
		alike, e := Alike(m)
		if len(alike) != len(m.Next) || e != api.OK {
			t.Errorf("Alike of %v: %v", m, alike)
		}
		for s := range m.Next {
			if want := slices.Index(lengths[s], -1); alike[s] != want {
				t.Errorf("Alike of %v: %v, want %d at %d", m, alike, want, s)
			}
			for u := range m.Next {
				word, ok, e := Apart(m, s, u)
				a, _ := say(m, s, word)
				b, _ := say(m, u, word)
				if ok != (lengths[s][u] > 0) || e != api.OK || ok && (len(word) != lengths[s][u] || a == b) || !ok && word != nil {
					t.Errorf("Apart of %v, %d, %d: %v, %t", m, s, u, word, ok)
				}
				if len(word) >= len(m.Next) {
					t.Errorf("P9.6 of %v, %d, %d: %v", m, s, u, word)
				}
			}
		}
		form, e := Form(m)
		if e != api.OK || Check(form) != api.OK {
			t.Fatalf("Form of %v: %v", m, form)
		}
		if word, same, e := Same(m, form); !same || word != nil || e != api.OK {
			t.Errorf("Form of %v: %v, %v", m, form, word)
		}
		met := 1
		for s, row := range form.Next {
			for _, to := range row {
				if to > met || s >= met {
					t.Errorf("Form of %v: %v", m, form)
				}
				met = max(met, to+1)
			}
			for u, length := range differing(form, form)[s] {
				if length < 0 && u != s {
					t.Errorf("Form of %v: %v has equal states", m, form)
				}
			}
		}
		if met != len(form.Next) {
			t.Errorf("Form of %v: %v", m, form)
		}
		again, _ := Form(form)
		if !reflect.DeepEqual(again, form) {
			t.Errorf("Form of %v: %v", form, again)
		}
	}
	if f, e := Form(dumb); !reflect.DeepEqual(f, Machine{[][]int{{0}}, [][]int{{0}}}) || e != api.OK {
		t.Errorf("Form: %v", f)
	}
}

func TestSame(t *testing.T) {
	list := append(machines(), all(2, 1, 2)...)
	same := 0
	for i, a := range list {
		for _, b := range list[:i] {
			word, is, e := Same(a, b)
			if len(a.Next[0]) != len(b.Next[0]) {
				none(t, "Same", api.ErrArg, e, word, is)
				continue
			}
			length := differing(a, b)[0][0]
			x, _ := say(a, 0, word)
			y, _ := say(b, 0, word)
			if is != (length < 0) || e != api.OK || !is && (len(word) != length || x == y) || is && word != nil {
				t.Errorf("Same of %v, %v: %v, %t, want %d", a, b, word, is, length)
			}
			f, _ := Form(a)
			g, _ := Form(b)
			if is != reflect.DeepEqual(f, g) {
				t.Errorf("the forms of %v, %v: %v, %v", a, b, f, g)
			}
			if is {
				same++
			}
		}
	}
	if same == 0 {
		t.Error("no two say the same")
	}
}

func showsEnd(m Machine, word []int) bool {
	for s := range m.Next {
		for u := range s {
			a, i := say(m, s, word)
			b, k := say(m, u, word)
			if a == b && i != k {
				return false
			}
		}
	}
	return true
}

func showsState(m Machine, s int, word []int) bool {
	for u := range m.Next {
		a, _ := say(m, s, word)
		b, _ := say(m, u, word)
		if a == b && u != s {
			return false
		}
	}
	return true
}

func showsBeginning(m Machine, word []int) bool {
	for s := range m.Next {
		if !showsState(m, s, word) {
			return false
		}
	}
	return true
}

// limit is the length of the words that the tests try one by one.
func limit(m Machine) int {
	return []int{0, 11, 8, 6}[len(m.Next[0])]
}

// wantShortest checks a word against all that are shorter, up to a limit.
func wantShortest(t *testing.T, name string, m Machine, word []int, ok bool, e api.Errno, shows func(word []int) bool) {
	t.Helper()
	if e != api.OK || ok && !shows(word) || !ok && word != nil {
		t.Errorf("%s of %v: %v, %t, %d", name, m, word, ok, e)
	}
	for length := 0; length <= limit(m) && (!ok || length < len(word)); length++ {
		for _, shorter := range words(len(m.Next[0]), length) {
			if shows(shorter) {
				t.Errorf("%s of %v: %v, %t, but there is %v", name, m, word, ok, shorter)
				return
			}
		}
	}
}

func TestWordsThatTell(t *testing.T) {
	longest := 0
	list := append(machines()[:120], all(2, 1, 2)...)
	for _, m := range append(list, all(3, 1, 2)...) {
		word, ok, e := End(m)
		wantShortest(t, "End", m, word, ok, e, func(w []int) bool { return showsEnd(m, w) })
		alike, _ := Alike(m)
		isMinimal := true
		for s, least := range alike {
			isMinimal = isMinimal && s == least
		}
		if isMinimal && !ok {
			t.Errorf("P9.6 of %v", m)
		}
		longest = max(longest, len(word))
		word, ok, e = Beginning(m)
		wantShortest(t, "Beginning", m, word, ok, e, func(w []int) bool { return showsBeginning(m, w) })
		longest = max(longest, len(word))
		if ok {
			end, e := TellsEnd(m, word)
			plan, has, f := Ask(m)
			height, g := Height(plan)
			if !end || !has || height > len(word) || e+f+g != api.OK {
				t.Errorf("P9.7 of %v: %v, %d", m, word, height)
			}
		}
		for s := range m.Next {
			one, is, e := State(m, s)
			wantShortest(t, "State", m, one, is, e, func(w []int) bool { return showsState(m, s, w) })
			longest = max(longest, len(one))
			if shows, e := TellsState(m, s, word); ok && (!shows || !is) || e != api.OK {
				t.Errorf("P9.7 of %v, %d: %v", m, s, word)
			}
		}
		for length := range 4 {
			for _, w := range words(len(m.Next[0]), length) {
				a, e := TellsEnd(m, w)
				b, f := TellsBeginning(m, w)
				if a != showsEnd(m, w) || b != showsBeginning(m, w) || e+f != api.OK {
					t.Errorf("%v, %v: %t, %t", m, w, a, b)
				}
				for s := range m.Next {
					if is, e := TellsState(m, s, w); is != showsState(m, s, w) || e != api.OK {
						t.Errorf("TellsState of %v, %d, %v: %t", m, s, w, is)
					}
				}
			}
		}
	}
	if longest < 5 {
		t.Errorf("the longest word has %d inputs", longest)
	}
	a, _, _ := End(two)
	b, _, _ := Beginning(two)
	c, _, _ := State(two, 0)
	d, _, _ := State(two, 1)
	if fmt.Sprint(a, b, c, d) != "[0] [0] [0] [0]" {
		t.Errorf("words of two: %v, %v, %v, %v", a, b, c, d)
	}
	if w, ok, e := End(dumb); w != nil || ok || e != api.OK {
		t.Errorf("End: %v, %t", w, ok)
	}
	if w, ok, e := Beginning(one); len(w) != 0 || !ok || e != api.OK {
		t.Errorf("Beginning of one state: %v, %t", w, ok)
	}
	if w, ok, e := End(one); len(w) != 0 || !ok || e != api.OK {
		t.Errorf("End of one state: %v, %t", w, ok)
	}
	if w, ok, e := State(one, 0); len(w) != 0 || !ok || e != api.OK {
		t.Errorf("State of one state: %v, %t", w, ok)
	}
	if w, ok, e := Beginning(three); len(w) != 2 || !ok || e != api.OK {
		t.Errorf("Beginning of three states: %v, %t", w, ok)
	}
}

// canAsk says whether there is a plan of at most a height for pairs of what a state was and what it is.
func canAsk(m Machine, now [][2]int, height int) bool {
	if len(now) < 2 {
		return true
	}
	if height == 0 {
		return false
	}
	for x := range m.Next[0] {
		then := map[int][][2]int{}
		for _, p := range now {
			out := m.Out[p[1]][x]
			then[out] = append(then[out], [2]int{p[0], m.Next[p[1]][x]})
		}
		ok := true
		for _, list := range then {
			for i, p := range list {
				for _, q := range list[:i] {
					ok = ok && p[1] != q[1]
				}
			}
		}
		for _, list := range then {
			ok = ok && canAsk(m, list, height-1)
		}
		if ok {
			return true
		}
	}
	return false
}

func TestPlans(t *testing.T) {
	found, not := 0, 0
	for _, m := range append(machines(), all(3, 1, 2)...) {
		p, ok, e := Ask(m)
		if e != api.OK {
			t.Fatalf("Ask of %v: %d", m, e)
		}
		var now [][2]int
		for s := range m.Next {
			now = append(now, [2]int{s, s})
		}
		if !ok {
			not++
			most := []int{0, 15, 9, 7}[len(m.Next[0])]
			if canAsk(m, now, most) || !reflect.ValueOf(p).IsZero() {
				t.Errorf("Ask of %v: %v", m, p)
			}
			continue
		}
		found++
		height, e := Height(p)
		if e != api.OK || !canAsk(m, now, height) || height > 0 && height < 12 && canAsk(m, now, height-1) {
			t.Errorf("Ask of %v: %v, %d", m, p, height)
		}
		for set := 1; set < 1<<len(m.Next); set++ {
			is, e := Tells(m, set, p)
			if e != api.OK || set == 1<<len(m.Next)-1 && !is {
				t.Errorf("Tells of %v, %d, %v: %t", m, set, p, is)
			}
			want := true
			for s := range m.Next {
				if set>>s&1 == 0 {
					continue
				}
				at, state := p, s
				for !at.Leaf {
					out := m.Out[state][at.Input]
					at, state = at.Parts[out], m.Next[state][at.Input]
				}
				want = want && at.State == s
			}
			if is && !want {
				t.Errorf("Tells of %v, %d, %v: %t", m, set, p, is)
			}
		}
	}
	if found == 0 || not == 0 {
		t.Errorf("what was tried: %d, %d", found, not)
	}
	if p, ok, e := Ask(one); !reflect.DeepEqual(p, Plan{Leaf: true}) || !ok || e != api.OK {
		t.Errorf("Ask of one state: %v", p)
	}
}

func leaf(s int) Plan {
	return Plan{Leaf: true, State: s}
}

func question(x int, parts ...Plan) Plan {
	for len(parts) < 4 {
		parts = append(parts, leaf(0))
	}
	return Plan{Input: x, Parts: parts}
}

func TestTells(t *testing.T) {
	right := question(0, leaf(0), leaf(1))
	for _, x := range []struct {
		set  int
		p    Plan
		want bool
	}{
		{3, right, true}, {1, leaf(0), true}, {2, leaf(1), true}, {2, leaf(0), false}, {1, leaf(1), false}, {3, leaf(0), false}, {1, leaf(2), false}, {1, leaf(-1), false},
		{3, question(0, leaf(1), leaf(0)), false}, {3, question(1, leaf(0), leaf(1)), false}, {3, question(-1, leaf(0), leaf(1)), false},
		{3, question(0, leaf(0), leaf(1), leaf(1)), false}, {3, question(0, leaf(0), leaf(1), right), false}, {1, right, false}, {2, right, true},
		{2, question(0, leaf(0), leaf(1)), true}, {1, question(0, leaf(0), leaf(0)), true}, {2, question(0, leaf(1), leaf(1)), false},
		{3, Plan{State: 1, Parts: right.Parts}, false}, {3, Plan{Parts: right.Parts[:3]}, false}, {3, Plan{Parts: append(slices.Clone(right.Parts), leaf(0))}, false},
		{1, Plan{Leaf: true, Input: 1}, false}, {1, Plan{Leaf: true, Parts: right.Parts}, false}, {3, Plan{Leaf: true, Parts: right.Parts}, false}, {3, Plan{}, false},
		{1, Plan{Leaf: true, Parts: []Plan{}}, true}, {1, question(0, right), false}, {1, question(0, question(0, leaf(0), leaf(0))), true},
		{3, question(0, question(0, leaf(0), leaf(0)), question(0, leaf(1))), true}, {3, Plan{Input: math.MaxInt, Parts: right.Parts}, false}, {1, leaf(math.MinInt), false},
	} {
		if is, e := Tells(two, x.set, x.p); is != x.want || e != api.OK {
			t.Errorf("Tells of %d, %v: %t", x.set, x.p, is)
		}
	}
	if is, e := Tells(dumb, 3, question(0, leaf(0))); is || e != api.OK {
		t.Error("Tells of what can not be told")
	}
	endless := question(0)
	endless.Parts[0], endless.Parts[1] = endless, endless
	if is, e := Tells(two, 1, endless); is || e != api.OK {
		t.Error("Tells of a plan without an end")
	}
	if h, e := Height(endless); h != 0 || e != api.ErrArg {
		t.Errorf("Height of a plan without an end: %d, %d", h, e)
	}
	long := leaf(0)
	for range 5000 {
		long = question(0, long)
	}
	stays := Machine{[][]int{{0}}, [][]int{{0}}}
	if is, e := Tells(stays, 1, long); !is || e != api.OK {
		t.Error("Tells of a long plan")
	}
}

func TestHeight(t *testing.T) {
	for _, x := range []struct {
		p      Plan
		height int
		e      api.Errno
	}{
		{leaf(0), 0, api.OK}, {leaf(5), 0, api.OK}, {leaf(6), 0, api.ErrArg}, {leaf(-1), 0, api.ErrArg}, {Plan{}, 0, api.ErrArg}, {Plan{Leaf: true, Input: 1}, 0, api.ErrArg},
		{question(2), 1, api.OK}, {question(3), 0, api.ErrArg}, {question(-1), 0, api.ErrArg}, {question(0, leaf(6)), 0, api.ErrArg}, {question(1, leaf(3), question(2, leaf(5))), 2, api.OK},
		{question(1, leaf(3), question(2, question(3))), 0, api.ErrArg}, {Plan{State: 1, Parts: question(0).Parts}, 0, api.ErrArg}, {Plan{Parts: question(0).Parts[1:]}, 0, api.ErrArg},
		{Plan{Leaf: true, Parts: question(0).Parts}, 0, api.ErrArg}, {question(0, leaf(0), leaf(0), leaf(0), leaf(0), leaf(0)), 0, api.ErrArg},
		{question(0, leaf(0), leaf(0), question(0, question(0)), question(0)), 3, api.OK}, {leaf(math.MaxInt), 0, api.ErrArg}, {question(math.MinInt), 0, api.ErrArg},
	} {
		if h, e := Height(x.p); h != x.height || e != x.e {
			t.Errorf("Height of %v: %d, %d", x.p, h, e)
		}
	}
	deep := question(0)
	for range 60 {
		deep = question(0, deep)
	}
	for extra, e := range map[int]api.Errno{38: api.OK, 39: api.ErrArg} {
		long := deep
		for range extra {
			long = question(0, leaf(0), long)
		}
		want := 0
		if e == api.OK {
			want = 100
		}
		if h, f := Height(question(0, deep, long)); h != want || f != e {
			t.Errorf("Height of parts that are shared: %d, %d, want %d", h, f, want)
		}
	}
	high, shared := leaf(1), leaf(1)
	for h := range 103 {
		want, e := h, api.OK
		if h > 100 {
			want, e = 0, api.ErrArg
		}
		for _, p := range []Plan{high, shared} {
			if got, f := Height(p); got != want || f != e {
				t.Errorf("Height of %d: %d, %d", h, got, f)
			}
		}
		high, shared = question(0, leaf(0), leaf(0), leaf(0), high), question(0, shared, shared, shared, shared)
	}
}

func checkSuite(t *testing.T, m Machine, others []Machine) {
	t.Helper()
	suite, e := Suite(m)
	if len(suite) > 400 || e != api.OK {
		t.Errorf("Suite of %v: %d words, %d", m, len(suite), e)
	}
	for _, word := range suite {
		if len(word) > 12 {
			t.Errorf("Suite of %v: %v", m, word)
		}
	}
	form, _ := Form(m)
	for _, other := range others {
		_, same, _ := Same(m, other)
		at, passes, e := Passes(m, other, suite)
		if len(other.Next) <= len(form.Next) && passes != same || same && !passes || e != api.OK {
			t.Errorf("%v passes the suite of %v: %v", other, m, suite)
		}
		first := slices.IndexFunc(suite, func(word []int) bool {
			a, _ := say(m, 0, word)
			b, _ := say(other, 0, word)
			return a != b
		})
		if passes != (first < 0) || at != max(first, 0) {
			t.Errorf("Passes of %v, %v, %v: %d, %t", m, other, suite, at, passes)
		}
	}
}

func TestSuite(t *testing.T) {
	small := append(all(1, 2, 2), all(2, 2, 2)...)
	for _, m := range small {
		checkSuite(t, m, small)
	}
	lines := append(append(all(1, 1, 2), all(2, 1, 2)...), all(3, 1, 2)...)
	for _, m := range lines {
		checkSuite(t, m, lines)
	}
	chance := rand.New(rand.NewSource(26))
	triples := all(3, 2, 2)
	for range 3 {
		checkSuite(t, some(chance, 3, 2, 2), triples)
	}
	for _, m := range machines() {
		form, _ := Form(m)
		var faults []Machine
		for s := range form.Next {
			for x := range form.Next[s] {
				for to := range len(form.Next) {
					f, _ := Form(form)
					f.Next[s][x] = to
					f.Out[s][x] = chance.Intn(4)
					faults = append(faults, f)
				}
			}
		}
		for range 20 {
			faults = append(faults, some(chance, len(form.Next), len(m.Next[0]), 2))
		}
		checkSuite(t, m, faults)
	}
	if s, e := Suite(Machine{[][]int{{0}}, [][]int{{0}}}); fmt.Sprint(s) != "[[0]]" || e != api.OK {
		t.Errorf("Suite of one state: %v", s)
	}
	if at, ok, e := Passes(two, dumb, nil); at != 0 || !ok || e != api.OK {
		t.Errorf("Passes of nothing: %d, %t", at, ok)
	}
	if at, ok, e := Passes(two, dumb, [][]int{nil, {0}, {0, 0}}); at != 2 || ok || e != api.OK {
		t.Errorf("Passes: %d, %t", at, ok)
	}
	if at, ok, e := Passes(two, dumb, [][]int{{0, 0}, {1}}); at != 0 || ok || e != api.ErrArg {
		t.Errorf("Passes of a word that is none: %d, %t, %d", at, ok, e)
	}
}

func TestMemory(t *testing.T) {
	m := Machine{[][]int{[]int{1, 9}[:1], {0}}, [][]int{[]int{0, 9}[:1], {1}}}
	f, _ := Form(m)
	f.Next[0][0], f.Out[0][0] = 7, 7
	_ = append(f.Next[0], 5)
	if !reflect.DeepEqual(m, two) || m.Next[0][:2][1] != 9 {
		t.Errorf("the machine has changed: %v", m)
	}
	suite, _ := Suite(three)
	for _, word := range suite {
		for i := range word {
			word[i] = 7
		}
		_ = append(word, 7)
	}
	again, _ := Suite(three)
	for _, word := range again {
		if slices.Contains(word, 7) {
			t.Errorf("Suite: %v", again)
		}
	}
	p, _, _ := Ask(two)
	p.Parts[0].State = 7
	q, _, _ := Ask(two)
	if reflect.DeepEqual(p, q) {
		t.Error("results share memory")
	}
}
