package printf

import (
	"strconv"
	"strings"

	"cowrie/api"
	"cowrie/number"
)

// field is how wide a text is at least, and what fills it up: zeros, or blanks ahead or, if it stands at the left, behind.
type field struct {
	width       int
	left, zeros bool
}

// laid: the text, filled up.
func (f field) laid(s string) string {
	lacks := max(0, f.width-len(s))
	switch {
	case f.left:
		return s + strings.Repeat(" ", lacks)
	case f.zeros:
		size := strings.TrimPrefix(s, "-")
		sign := s[:len(s)-len(size)]
		return sign + strings.Repeat("0", lacks) + size
	}
	return strings.Repeat(" ", lacks) + s
}

// teller tells plans of arguments.
type teller struct {
	strings.Builder
	args   []string // those that no conversion took yet
	status int
}

// tell tells the plan once.
func (t *teller) tell(p plan) {
	for _, c := range p.conversions {
		t.WriteString(c.ahead)
		t.WriteString(c.laid(t.converted(c.letter)))
	}
	t.WriteString(p.behind)
	if p.faulty {
		t.status = 1
	}
}

// converted: what a conversion makes of the next argument.
func (t *teller) converted(letter byte) string {
	arg := t.next()
	switch letter {
	case 's':
		return arg
	case 'b':
		return Escape(arg)
	case 'c':
		return arg[:min(1, len(arg))]
	case 'x':
		return strconv.FormatUint(uint64(t.number(arg)), 16)
	case 'o':
		return strconv.FormatUint(uint64(t.number(arg)), 8)
	}
	return number.Print(t.number(arg))
}

// next takes an argument; a missing one is empty.
func (t *teller) next() string {
	if len(t.args) == 0 {
		return ""
	}
	arg := t.args[0]
	t.args = t.args[1:]
	return arg
}

// number: the argument's; an empty one is 0 without fault.
func (t *teller) number(arg string) int {
	n, e := number.Parse(arg)
	if e != api.OK && arg != "" {
		t.status = 1
	}
	return n
}
