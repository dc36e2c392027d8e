package print

import (
	"math"

	"cowrie/api"
)

// The kinds of commands.
const (
	none = iota
	simple
	sequence
	both
	either
	opposite
	pipeline
	subshell
	group
	branch
	while
	until
	each
	choice
	function
	question
	arithmetic
	counting
	local
)

// The kinds of parts.
const (
	text = iota + 1
	parameter
	list
	sum
	file
)

// The places where commands stand, from the one where most may on: a command stands at those up to its own.
const (
	nowhere = iota
	listed
	chained
	signed
	piped
	single
	compound
)

// placeOf: the last place where a command of that kind may stand.
func placeOf(kind int) int {
	switch kind {
	case sequence:
		return listed
	case both, either:
		return chained
	case opposite:
		return signed
	case pipeline:
		return piped
	case simple, function, local:
		return single
	case subshell, group, branch, while, until, each, choice, question, arithmetic, counting:
		return compound
	}
	return nowhere
}

// span is how many there may be.
type span struct{ least, most int }

func (s span) holds(n int) bool {
	return n >= s.least && n <= s.most
}

// shape is how many of each a command may have: none of what it doesn't name.
type shape struct {
	name                                             bool
	words, assigns, redirs, kids, cases, conds, sums span
}

// fits: has the command what a command of that shape has?
func (s shape) fits(c api.Cmd) bool {
	return s.name == (c.Name != "") &&
		s.words.holds(len(c.Words)) && s.assigns.holds(len(c.Assigns)) && s.redirs.holds(len(c.Redirs)) &&
		s.kids.holds(len(c.Kids)) && s.cases.holds(len(c.Cases)) && s.conds.holds(len(c.Conds)) && s.sums.holds(len(c.Sums))
}

// shapeOf: the shape of commands of that kind.
func shapeOf(kind int) shape {
	one, two, any := span{1, 1}, span{2, 2}, span{0, math.MaxInt}
	switch kind {
	case simple:
		return shape{words: any, assigns: any, redirs: any}
	case sequence, pipeline:
		return shape{kids: span{2, math.MaxInt}}
	case both, either:
		return shape{kids: two}
	case opposite:
		return shape{kids: one}
	case subshell, group:
		return shape{kids: one, redirs: any}
	case branch:
		return shape{kids: span{2, 3}, redirs: any}
	case while, until:
		return shape{kids: two, redirs: any}
	case each:
		return shape{name: true, words: any, cases: span{0, 1}, kids: one, redirs: any}
	case choice:
		return shape{words: one, cases: any, redirs: any}
	case function:
		return shape{name: true, kids: one}
	case question:
		return shape{conds: one, redirs: any}
	case arithmetic:
		return shape{sums: one, redirs: any}
	case counting:
		return shape{sums: span{3, 3}, kids: one, redirs: any}
	case local:
		return shape{assigns: any}
	}
	return shape{}
}
