package gang

import (
	"strconv"
	"strings"

	"tosher/api"
)

const (
	maxNumber = 1000000
	maxDarts  = 24
)

// line is one that can be obeyed.
type line interface {
	given() string
}

// remark is a line without a reply.
type remark struct{ text string }

// command is a line that changes the gang.
type command struct {
	text    string
	do      func(numbers []int) api.Errno
	numbers []int
}

// question is a line that asks without a number.
type question struct {
	text string
	ask  func(g *Gang) (string, api.Errno)
}

// inquiry is a line that asks with a number.
type inquiry struct {
	text   string
	ask    func(number int) (string, api.Errno)
	number int
}

func (r remark) given() string   { return r.text }
func (c command) given() string  { return c.text }
func (q question) given() string { return q.text }
func (i inquiry) given() string  { return i.text }

// fault is an error's number as an error.
type fault struct{ code api.Errno }

func (f fault) Error() string {
	return reply("error", strconv.Itoa(int(f.code)))
}

// refusal is the line that was refused, with the cause.
type refusal struct {
	text  string
	cause error
}

func (r refusal) Error() string {
	return reply(r.text+":", r.cause.Error())
}

func (r refusal) Unwrap() error {
	return r.cause
}

// refused returns no error if nothing is wrong.
func refused(text string, code api.Errno) error {
	if code == api.OK {
		return nil
	}
	return refusal{text, fault{code}}
}

// reply joins words by blanks.
func reply(words ...string) string {
	return strings.Join(words, " ")
}

// number reads one as it must be written.
func number(word string) (int, bool) {
	n, err := strconv.Atoi(word)
	if err != nil || strconv.Itoa(n) != word || n < -maxNumber || n > maxNumber {
		return 0, false
	}
	return n, true
}

func numbers(words []string) ([]int, bool) {
	var out []int
	for _, word := range words {
		n, ok := number(word)
		if !ok {
			return nil, false
		}
		out = append(out, n)
	}
	return out, true
}

// deed is what a command does, and how many numbers it has.
type deed struct {
	least, most int
	do          func(numbers []int) api.Errno
}

func (g *Gang) deeds() map[string]deed {
	return map[string]deed{
		"edge":  {2, 2, g.edge},
		"turn":  {0, maxDarts, g.turn},
		"flow":  {5, 5, g.flow},
		"wall":  {3, 3, g.wall},
		"later": {1, 1, g.later},
		"join":  {2, 2, g.join},
		"go":    {0, 0, g.goHome},
		"unit":  {2, 2, g.unit},
		"gate":  {1, 1, g.gate},
		"wire":  {3, 3, g.wire},
	}
}

func questions() map[string]func(*Gang) (string, api.Errno) {
	return map[string]func(*Gang) (string, api.Errno){
		"acyclic": (*Gang).acyclic,
		"genus":   (*Gang).genus,
		"slope":   (*Gang).slope,
		"sizes":   (*Gang).sizes,
		"regions": (*Gang).regions,
		"vote":    (*Gang).vote,
		"order":   (*Gang).order,
		"worst":   (*Gang).worst,
		"tell":    (*Gang).tell,
	}
}

func (g *Gang) inquiries() map[string]func(int) (string, api.Errno) {
	return map[string]func(int) (string, api.Errno){
		"colours": g.colours,
		"at":      g.at,
		"log":     g.log,
	}
}

// read returns a line that can be obeyed.
func (g *Gang) read(text string) (line, error) {
	if text == "" || strings.HasPrefix(text, "#") {
		return remark{text}, nil
	}
	words := strings.Split(text, " ")
	list, ok := numbers(words[1:])
	if !ok {
		return nil, refused(text, api.ErrLine)
	}
	if d, ok := g.deeds()[words[0]]; ok && len(list) >= d.least && len(list) <= d.most {
		return command{text, d.do, list}, nil
	}
	if ask, ok := questions()[words[0]]; ok && len(list) == 0 {
		return question{text, ask}, nil
	}
	if ask, ok := g.inquiries()[words[0]]; ok && len(list) == 1 {
		return inquiry{text, ask, list[0]}, nil
	}
	return nil, refused(text, api.ErrLine)
}

// obey does what a line says, and notes it in the book if it is a command.
func (g *Gang) obey(l line) (string, error) {
	switch l := l.(type) {
	case command:
		if code := l.do(l.numbers); code != api.OK {
			return "", refused(l.given(), code)
		}
		g.book = append(g.book, l.given())
		return "ok", nil
	case question:
		out, code := l.ask(g)
		return out, refused(l.given(), code)
	case inquiry:
		out, code := l.ask(l.number)
		return out, refused(l.given(), code)
	}
	return "", nil
}

// answer reads a line and obeys it.
func (g *Gang) answer(text string) (string, error) {
	l, err := g.read(text)
	if err != nil {
		return "", err
	}
	return g.obey(l)
}
