package parse

import (
	"strings"

	"cowrie/api"
	"cowrie/lex"
	"cowrie/octets"
)

// script reads all that there is, as one list.
func (r *reader) script() api.Cmd {
	c := r.list()
	if !r.over() {
		panic(r.wrong())
	}
	if len(r.waiting) > 0 {
		panic(r.short())
	}
	return c
}

// list reads commands with ; or newlines between; there may be none.
func (r *reader) list() api.Cmd {
	var l []api.Cmd
	r.apart()
	for more := true; more && !r.ends(); more = r.apart() {
		l = append(l, r.chain())
	}
	switch len(l) {
	case 0:
		return api.Cmd{}
	case 1:
		return l[0]
	}
	return api.Cmd{Kind: sequence, Kids: l, At: l[0].At}
}

// full reads a list that has a command.
func (r *reader) full() api.Cmd {
	c := r.list()
	if c.Kind == none {
		panic(r.wrong())
	}
	return c
}

// ends: does something come next with which no command begins, but that may end a list?
func (r *reader) ends() bool {
	op := r.operator()
	if op == ")" || op == ";;" || r.over() {
		return true
	}
	next, _ := r.bare()
	return octets.Reserved(next) && next != "!" && !r.begins(next)
}

// begins: is it a reserved word that a command begins with?
func (r *reader) begins(word string) bool {
	switch word {
	case "if", "while", "until", "for", "case", "{":
		return true
	case "[[", "function":
		return r.bash
	}
	return false
}

// chain reads pipelines with && or || between, from the left.
func (r *reader) chain() api.Cmd {
	c := r.pipeline()
	for {
		kind := both
		if !r.takes("&&") {
			if !r.takes("||") {
				return c
			}
			kind = either
		}
		r.lines()
		c = api.Cmd{Kind: kind, Kids: []api.Cmd{c, r.pipeline()}, At: c.At}
	}
}

// pipeline reads commands with | between, and what turns their status round.
func (r *reader) pipeline() api.Cmd {
	at := r.space()
	if r.says("!") {
		return api.Cmd{Kind: opposite, Kids: []api.Cmd{r.piped()}, At: at}
	}
	return r.piped()
}

// piped reads commands with | between.
func (r *reader) piped() api.Cmd {
	l := []api.Cmd{r.nested(r.command)}
	for r.takes("|") {
		r.lines()
		l = append(l, r.nested(r.command))
	}
	if len(l) == 1 {
		return l[0]
	}
	return api.Cmd{Kind: pipeline, Kids: l, At: l[0].At}
}

// nested reads a command, within those that are being read.
func (r *reader) nested(read func() api.Cmd) api.Cmd {
	at := r.space()
	if next, _ := r.bare(); next == "!" || r.ends() {
		panic(r.wrong())
	}
	if r.depth > api.MaxNest {
		panic(fault{errno: api.ErrDepth, place: at, nested: true})
	}
	r.depth++
	c := read()
	r.depth--
	c.At = at
	return c
}

// command reads one of any kind that is no list.
func (r *reader) command() api.Cmd {
	next, behind := r.bare()
	switch {
	case r.opens():
		return r.compound()
	case r.bash && next == "function":
		r.at = behind
		name := r.name()
		r.pair()
		return r.named(name)
	case octets.Name(next) && lex.Operator(r.s, lex.Space(r.s, behind), r.bash) == "(":
		r.at = behind
		if !r.pair() {
			r.wants("(")
			panic(r.wrong())
		}
		return r.named(next)
	case r.bash && next == "local":
		r.at = behind
		return r.locals()
	}
	return r.simple()
}

// pair goes behind ( and ), if they come next; do they?
func (r *reader) pair() bool {
	open := r.operator() == "("
	behind := lex.Space(r.s, r.at+1)
	ok := open && lex.Operator(r.s, behind, r.bash) == ")"
	if ok {
		r.at = behind + 1
	}
	return ok
}

// named reads the command of a function of that name.
func (r *reader) named(name string) api.Cmd {
	r.lines()
	return api.Cmd{Kind: function, Name: name, Kids: []api.Cmd{r.nested(r.compound)}}
}

// opens: does a command come next that its first word, or a parenthesis, tells?
func (r *reader) opens() bool {
	next, _ := r.bare()
	return r.operator() == "(" || next != "function" && r.begins(next)
}

// doubled: does (( come next that begins a sum?
func (r *reader) doubled() bool {
	return r.bash && strings.HasPrefix(r.s[r.space():], "((")
}
