package arith

import (
	"strings"

	"cowrie/api"
)

// reader reads an expression token by token; depth is how many are within each other of what is counted.
type reader struct {
	tokens
	depth int
}

// all reads the whole text.
func (r *reader) all() api.Sum {
	r.next()
	if r.kind == ending {
		return api.Sum{}
	}
	x := r.chain(listing)
	if r.kind != ending {
		panic(r.wrong(api.ErrSyntax))
	}
	if Deep(x) > api.MaxDeep {
		panic(r.wrong(api.ErrDepth))
	}
	return x
}

// within: what read reads, counted as within one more. Too many are told at the token, whether it may stand there or not.
func (r *reader) within(read func() api.Sum) api.Sum {
	if r.depth == api.MaxDeep {
		panic(r.wrong(api.ErrDepth))
	}
	r.depth++
	x := read()
	r.depth--
	return x
}

// chain reads what goes from the left: expressions above the level, its operators between.
func (r *reader) chain(level int) api.Sum {
	x := r.above(level)
	for r.joins(level) {
		op := r.take()
		x = made(op, x, r.above(level))
	}
	return x
}

// above reads an expression that is tighter than the level.
func (r *reader) above(level int) api.Sum {
	switch level {
	case listing:
		return r.assignment()
	case times:
		return r.power()
	}
	return r.chain(level + 1)
}

func (r *reader) assignment() api.Sum {
	x := r.choice()
	if !r.joins(assigning) {
		return x
	}
	if !variable(x) {
		panic(r.wrong(api.ErrSyntax))
	}
	op := r.take()
	return made(op, x, r.within(r.assignment))
}

func (r *reader) choice() api.Sum {
	x := r.chain(either)
	if !r.is("?") {
		return x
	}
	r.next()
	return r.within(func() api.Sum {
		yes := r.assignment()
		r.want(":")
		return made("?:", x, yes, r.choice())
	})
}

func (r *reader) power() api.Sum {
	x := r.within(r.operand)
	if !r.joins(power) {
		return x
	}
	op := r.take()
	return made(op, x, r.within(r.power))
}

// operand reads what signs may stand ahead of, with those signs.
func (r *reader) operand() api.Sum {
	switch {
	case r.kind == figure:
		n := r.n
		r.next()
		return constant(n)
	case r.kind == name:
		return r.stepped()
	case r.is("!", "~"):
		op := r.take()
		return made(op, r.within(r.operand))
	case r.is("-"):
		r.next()
		return made("neg", r.within(r.operand))
	case r.is("+"):
		r.next()
		return r.within(r.operand)
	case r.is("++", "--"):
		op := "pre" + r.take()
		return made(op, r.variable())
	case r.is("("):
		r.next()
		x := r.chain(listing)
		r.want(")")
		return x
	}
	panic(r.wrong(api.ErrSyntax))
}

// stepped reads a variable, and ++ or -- behind it.
func (r *reader) stepped() api.Sum {
	x := r.variable()
	if !r.is("++", "--") {
		return x
	}
	return made("post"+r.take(), x)
}

func (r *reader) variable() api.Sum {
	if r.kind != name {
		panic(r.wrong(api.ErrSyntax))
	}
	return api.Sum{Name: strings.Clone(r.take())}
}

// constant: the number as an expression. One below 0 is none by itself, and the least one's opposite is no number: so it's told by one less.
func constant(n int) api.Sum {
	if n >= 0 {
		return api.Sum{N: n}
	}
	return made("neg", made("+", api.Sum{N: -(n + 1)}, api.Sum{N: 1}))
}
