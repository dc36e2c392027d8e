package parse

import (
	"strings"

	"cowrie/api"
	"cowrie/test"
)

// question reads what stands behind [[ .
func (r *reader) question() api.Cmd {
	x := r.any()
	r.must("]]")
	return api.Cmd{Kind: question, Conds: []api.Cond{x}}
}

// any reads conditions with || between.
func (r *reader) any() api.Cond {
	return r.joined("||", r.all)
}

// all reads conditions with && between.
func (r *reader) all() api.Cond {
	return r.joined("&&", r.turned)
}

// joined reads conditions with that operator between, from the left, and the newlines behind them.
func (r *reader) joined(op string, read func() api.Cond) api.Cond {
	x := read()
	for r.lines(); r.takes(op); r.lines() {
		x = api.Cond{Op: strings.Clone(op), Kids: []api.Cond{x, read()}}
	}
	return x
}

// turned reads a condition, or its opposite, or what stands in parentheses.
func (r *reader) turned() api.Cond {
	r.lines()
	switch {
	case r.says("!"):
		return api.Cond{Op: strings.Clone("!"), Kids: []api.Cond{r.turned()}}
	case r.takes("("):
		x := r.any()
		r.wants(")")
		return x
	}
	return r.term()
}

// term reads a condition that asks of one word, or of two. A word that may be an operator is one only if the words behind it leave it no other way to be read.
func (r *reader) term() api.Cond {
	if !r.asks() {
		panic(r.wrong())
	}
	op, _ := r.bare()
	one := test.Unary(op)
	w := r.word()
	r.lines()
	if !r.asks() {
		return api.Cond{Op: strings.Clone("word"), Words: []api.Word{w}}
	}
	middle, _ := r.bare()
	two := test.Binary(middle) || middle == "=="
	if !one && !two {
		panic(r.wrong())
	}
	next := r.word()
	r.lines()
	switch {
	case two && r.asks():
		return api.Cond{Op: middle, Words: []api.Word{w, r.word()}}
	case one:
		return api.Cond{Op: op, Words: []api.Word{next}}
	}
	panic(r.wrong())
}

// asks: does a word of a condition come next?
func (r *reader) asks() bool {
	next, _ := r.bare()
	return r.operator() == "" && !r.over() && next != "]]"
}
