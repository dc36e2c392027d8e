package parse

import (
	"strings"

	"cowrie/api"
	"cowrie/arith"
	"cowrie/lex"
)

// compound reads a command that its first word, or a parenthesis, tells, with the redirections behind it; one must come next.
func (r *reader) compound() api.Cmd {
	if !r.opens() {
		panic(r.wrong())
	}
	c := r.body()
	for fd, op := r.redirects(); op != ""; fd, op = r.redirects() {
		c.Redirs = append(c.Redirs, r.redir(fd, op))
	}
	r.await(c.Redirs)
	return c
}

// body reads such a command alone.
func (r *reader) body() api.Cmd {
	if r.doubled() {
		return api.Cmd{Kind: sum, Sums: r.sums(1)}
	}
	if r.takes("(") {
		c := r.full()
		r.wants(")")
		return api.Cmd{Kind: subshell, Kids: []api.Cmd{c}}
	}
	next, behind := r.bare()
	r.at = behind
	switch next {
	case "if":
		return r.branch()
	case "while":
		return r.loop(while)
	case "until":
		return r.loop(until)
	case "for":
		return r.each()
	case "case":
		return r.choice()
	case "[[":
		return r.question()
	}
	c := r.full()
	r.must("}")
	return api.Cmd{Kind: group, Kids: []api.Cmd{c}}
}

// branch reads what stands behind if, or behind elif, up to fi.
func (r *reader) branch() api.Cmd {
	l := []api.Cmd{r.full()}
	r.must("then")
	l = append(l, r.full())
	at := r.space()
	switch {
	case r.says("elif"):
		c := r.branch() // its fi is the one of both
		c.At = at
		return api.Cmd{Kind: branch, Kids: append(l, c)}
	case r.says("else"):
		l = append(l, r.full())
	}
	r.must("fi")
	return api.Cmd{Kind: branch, Kids: l}
}

// loop reads what stands behind while or until.
func (r *reader) loop(kind int) api.Cmd {
	c := r.full()
	return api.Cmd{Kind: kind, Kids: []api.Cmd{c, r.turns()}}
}

// turns reads what a loop does.
func (r *reader) turns() api.Cmd {
	r.must("do")
	c := r.full()
	r.must("done")
	return c
}

// each reads what stands behind for.
func (r *reader) each() api.Cmd {
	var c api.Cmd
	if r.doubled() {
		c = api.Cmd{Kind: counting, Sums: r.sums(3)}
	} else {
		c = api.Cmd{Kind: each, Name: r.name()}
		r.lines()
		if r.says("in") {
			c.Words = r.words()
		} else {
			c.Cases = []api.Case{{}}
		}
	}
	r.apart()
	c.Kids = []api.Cmd{r.turns()}
	return c
}

// choice reads what stands behind case.
func (r *reader) choice() api.Cmd {
	c := api.Cmd{Kind: choice, Words: []api.Word{r.word()}}
	r.lines()
	r.must("in")
	for r.lines(); !r.says("esac"); r.lines() {
		c.Cases = append(c.Cases, r.one())
	}
	return c
}

// one reads a branch of a case.
func (r *reader) one() api.Case {
	r.takes("(")
	l := []api.Word{r.word()}
	for r.takes("|") {
		l = append(l, r.word())
	}
	r.wants(")")
	c := r.list()
	r.wants(";;")
	return api.Case{Pats: l, Body: c}
}

// sums reads (( and so many sums with ; between, up to )).
func (r *reader) sums(many int) []api.Sum {
	from := r.at + 2
	end, e := lex.Closed(r.s, from)
	r.hold(e, end)
	r.at = end + 1
	switch {
	case r.at == len(r.s):
		panic(r.short())
	case r.s[r.at] != ')':
		panic(fault{errno: api.ErrSyntax, place: r.at})
	}
	r.at++
	var l []api.Sum
	for _, piece := range strings.SplitN(r.s[from:end], ";", many) {
		l = append(l, r.sum(from, from+len(piece)))
		from += len(piece) + 1
	}
	if len(l) < many {
		panic(fault{errno: api.ErrSyntax, place: end})
	}
	return l
}

// sum: the sum that stands from one place to another.
func (r *reader) sum(from, end int) api.Sum {
	x, place, e := arith.Parse(r.s[from:end], r.bash)
	r.hold(e, from+place)
	return x
}
