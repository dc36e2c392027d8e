package arith

import (
	"bytes"
	"strings"

	"cowrie/api"
	"cowrie/number"
)

// writer writes an expression without a blank or parentheses to spare: a text must be neither too long nor too deep to be read.
type writer struct{ out []byte }

// sum writes an expression, without parentheses around it.
func (w *writer) sum(x api.Sum) {
	level := levelOf(x.Op)
	switch level {
	case whole:
		w.leaf(x)
	case behind:
		w.sum(x.Kids[0])
		w.add(strings.TrimPrefix(x.Op, "post"))
	case ahead:
		w.sign(x.Op)
		w.kid(x.Kids[0], ahead)
	case choosing:
		w.kid(x.Kids[0], either)
		w.add("?")
		w.kid(x.Kids[1], assigning)
		w.add(":")
		w.kid(x.Kids[2], choosing)
	case assigning, power: // from the right
		w.kid(x.Kids[0], level+1)
		w.add(x.Op)
		w.kid(x.Kids[1], level)
	default: // from the left
		w.kid(x.Kids[0], level)
		w.add(x.Op)
		w.kid(x.Kids[1], level+1)
	}
}

// kid writes an expression where the least level may stand: in parentheses, if it is looser.
func (w *writer) kid(x api.Sum, least int) {
	if levelOf(x.Op) >= least {
		w.sum(x)
		return
	}
	w.add("(")
	w.sum(x)
	w.add(")")
}

// leaf writes a number, or a variable.
func (w *writer) leaf(x api.Sum) {
	if variable(x) {
		w.add(x.Name)
		return
	}
	w.add(number.Print(x.N))
}

// sign writes a sign that stands ahead. Right behind its like it would be one mark with that.
func (w *writer) sign(op string) {
	text := strings.TrimPrefix(op, "pre")
	if op == "neg" {
		text = "-"
	}
	if first := text[:1]; (first == "+" || first == "-") && bytes.HasSuffix(w.out, []byte(first)) {
		w.add(" ")
	}
	w.add(text)
}

func (w *writer) add(s string) {
	w.out = append(w.out, s...)
}
