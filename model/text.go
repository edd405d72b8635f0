package model

import (
	"dicebox/api"
	"dicebox/num"
	"strconv"
	"strings"
)

// maxDigits is the greatest number of digits of an integer in a text.
const maxDigits = 9

// Print returns the printed form of m. It returns ErrArg if m is not valid, and ErrFull if the text has
// more than MaxText bytes.
func Print(m api.Model) (string, api.Errno) {
	if !Valid(m) {
		return "", api.ErrArg
	}
	var out strings.Builder
	out.WriteString("model " + strconv.Itoa(len(m.States)) + "\n")
	for _, state := range m.States {
		out.WriteString("state " + strconv.Itoa(state.Owner) + " " + strconv.Itoa(state.Mark) + "\n")
		for _, choice := range state.Choices {
			out.WriteString(printChoice(choice))
		}
	}
	if out.Len() > api.MaxText {
		return "", api.ErrFull
	}
	return out.String(), api.OK
}

// printChoice returns the line of a choice, whose numbers are valid.
func printChoice(c api.Choice) string {
	reward, _ := num.Print(c.Reward)
	parts := make([]string, len(c.Branches))
	for i, branch := range c.Branches {
		chance, _ := num.Print(branch.Chance)
		parts[i] = " " + strconv.Itoa(branch.To) + " " + chance
	}
	return "choice " + reward + ":" + strings.Join(parts, ",") + "\n"
}

// fault is a panic value: the reason why a text cannot be parsed.
type fault api.Errno

// scanner reads a text line by line.
type scanner struct {
	rest string
}

// line returns the next line. A line without an end is a fault.
func (s *scanner) line() string {
	line, rest, ended := strings.Cut(s.rest, "\n")
	if !ended {
		panic(fault(api.ErrForm))
	}
	s.rest = rest
	return line
}

// starts reports whether the next line starts with word and a blank.
func (s *scanner) starts(word string) bool {
	return strings.HasPrefix(s.rest, word+" ")
}

// fields returns the n parts, separated by blanks, that follow word in the next line.
func (s *scanner) fields(word string, n int) []string {
	return split(after(s.line(), word+" "), " ", n)
}

// after returns what follows prefix in text.
func after(text, prefix string) string {
	rest, found := strings.CutPrefix(text, prefix)
	if !found {
		panic(fault(api.ErrForm))
	}
	return rest
}

// split returns the n parts of text.
func split(text, separator string, n int) []string {
	parts := strings.Split(text, separator)
	if len(parts) != n {
		panic(fault(api.ErrForm))
	}
	return parts
}

// parser parses the text of a model.
type parser struct {
	scanner
	isFull bool // whether there is a number that is not valid; errors of form come first
}

// integer returns the value of a few decimal digits without a leading zero.
func (p *parser) integer(text string) int {
	n, err := strconv.Atoi(text)
	if err != nil || len(text) > maxDigits || strconv.Itoa(n) != text || n < 0 {
		panic(fault(api.ErrForm))
	}
	return n
}

// number returns the number that text describes.
func (p *parser) number(text string) api.Num {
	out, e := num.Parse(text)
	switch e {
	case api.OK:
	case api.ErrFull:
		p.isFull = true
	default:
		panic(fault(e))
	}
	return out
}

// model parses the whole text.
func (p *parser) model() api.Model {
	n := p.integer(p.fields("model", 1)[0])
	var out api.Model
	for p.rest != "" {
		out.States = append(out.States, p.state())
	}
	if len(out.States) != n {
		panic(fault(api.ErrForm))
	}
	if p.isFull {
		panic(fault(api.ErrFull))
	}
	return out
}

// state parses the lines of a state.
func (p *parser) state() api.State {
	fields := p.fields("state", 2)
	out := api.State{Owner: p.integer(fields[0]), Mark: p.integer(fields[1])}
	for p.starts("choice") {
		out.Choices = append(out.Choices, p.choice())
	}
	return out
}

// choice parses the line of a choice.
func (p *parser) choice() api.Choice {
	parts := split(after(p.line(), "choice "), ":", 2)
	out := api.Choice{Reward: p.number(parts[0])}
	if parts[1] == "" {
		return out
	}
	for _, text := range strings.Split(parts[1], ",") {
		fields := split(after(text, " "), " ", 2)
		out.Branches = append(out.Branches, api.Branch{To: p.integer(fields[0]), Chance: p.number(fields[1])})
	}
	return out
}

// Parse returns the model that text describes. It returns ErrFull if text has more than MaxText bytes,
// ErrForm unless it has the form of a printed form, ErrFull if a number in it is not valid, and
// ErrArg if the model is not valid.
func Parse(text string) (m api.Model, e api.Errno) {
	if len(text) > api.MaxText {
		return api.Model{}, api.ErrFull
	}
	defer func() {
		switch reason := recover().(type) {
		case nil:
		case fault:
			m, e = api.Model{}, api.Errno(reason)
		default:
			panic(reason)
		}
	}()
	p := parser{scanner: scanner{rest: text}}
	out := p.model()
	if !Valid(out) {
		return api.Model{}, api.ErrArg
	}
	return out, api.OK
}
