package print

import (
	"slices"
	"strings"

	"cowrie/api"
	"cowrie/octets"
	"cowrie/test"
)

// compound writes a command that its first word, or a parenthesis, tells, without redirections.
func (w *writer) compound(c api.Cmd) {
	switch c.Kind {
	case subshell:
		w.around("(", c.Kids[0], ")")
	case group:
		w.around("{", c.Kids[0], "}")
	case branch:
		w.put("if ")
		w.branch(c)
		w.put("fi")
	case while:
		w.put("while ")
		w.loop(c)
	case until:
		w.put("until ")
		w.loop(c)
	case each:
		w.each(c)
	case choice:
		w.choice(c)
	case question:
		w.put("[[ ")
		w.condition(c.Conds[0], anyOf)
		w.put(" ]]")
	case arithmetic:
		w.put("((", w.sum(c.Sums[0]), "))")
	case counting:
		w.put("for ((", strings.Join(mapped(c.Sums, w.sum), ";"), "))")
		w.line()
		w.around("do", c.Kids[0], "done")
	}
}

// around writes a list between two words, each of which begins a line.
func (w *writer) around(ahead string, c api.Cmd, behind string) {
	w.put(ahead)
	w.line()
	w.list(c)
	w.put(behind)
}

// branch writes what stands behind if, or behind elif, up to fi.
func (w *writer) branch(c api.Cmd) {
	w.list(c.Kids[0])
	w.around("then", c.Kids[1], "")
	if len(c.Kids) == 3 {
		w.other(c.Kids[2])
	}
}

// other writes what an if does else. Another if that is all of it is an elif: so it is within no more commands.
func (w *writer) other(c api.Cmd) {
	switch {
	case c.Kind != branch || len(c.Redirs) > 0:
		w.around("else", c, "")
	case w.hold(shapeOf(branch).fits(c)):
		w.put("elif ")
		w.branch(c)
	}
}

// loop writes what stands behind while or until.
func (w *writer) loop(c api.Cmd) {
	w.list(c.Kids[0])
	w.around("do", c.Kids[1], "done")
}

// each writes a loop over words, or over the arguments.
func (w *writer) each(c api.Cmd) {
	w.hold(octets.Name(c.Name))
	w.put("for ", c.Name)
	if len(c.Cases) > 0 {
		w.hold(len(c.Words)+len(c.Cases[0].Pats) == 0 && nothing(c.Cases[0].Body))
	} else {
		w.put(" in")
		w.row(mapped(c.Words, w.word))
	}
	w.line()
	w.around("do", c.Kids[0], "done")
}

// choice writes a case. A parenthesis ahead of patterns pairs with the one behind.
func (w *writer) choice(c api.Cmd) {
	w.put("case ", w.word(c.Words[0]), " in")
	w.line()
	for _, k := range c.Cases {
		w.hold(len(k.Pats) > 0)
		w.put("(", strings.Join(mapped(k.Pats, w.word), " | "), ")")
		w.line()
		w.lines(k.Body)
		w.put(";;")
		w.line()
	}
	w.put("esac")
}

// The levels of conditions, from the loosest on.
const (
	anyOf = iota
	allOf
	term
)

// levelOf: the level of a condition with that operator.
func levelOf(op string) int {
	switch op {
	case "||":
		return anyOf
	case "&&":
		return allOf
	}
	return term
}

// condition writes a condition where that level may stand: in parentheses, if it is looser.
func (w *writer) condition(x api.Cond, level int) {
	own := levelOf(x.Op)
	if own < level {
		w.put("( ")
		w.condition(x, own)
		w.put(" )")
		return
	}
	switch x.Op {
	case "||", "&&":
		if w.hold(len(x.Kids) == 2 && len(x.Words) == 0) {
			w.condition(x.Kids[0], own)
			w.put(" ", x.Op, " ")
			w.condition(x.Kids[1], own+1)
		}
	case "!":
		if w.hold(len(x.Kids) == 1 && len(x.Words) == 0) {
			w.put("! ")
			w.condition(x.Kids[0], term)
		}
	default:
		w.term(x)
	}
}

// term writes a condition that asks of words. None of them may be what would end it, nor the first one what would turn it round.
func (w *writer) term(x api.Cond) {
	var row []string
	switch l := mapped(x.Words, w.word); {
	case len(l) == 1 && x.Op == "word":
		row = l
	case len(l) == 1 && test.Unary(x.Op):
		row = []string{x.Op, l[0]}
	case len(l) == 2 && (test.Binary(x.Op) || x.Op == "=="):
		row = []string{l[0], x.Op, l[1]}
	}
	w.hold(len(row) > 0 && len(x.Kids) == 0 && row[0] != "!" && !slices.Contains(row, "]]"))
	w.put(strings.Join(row, " "))
}
