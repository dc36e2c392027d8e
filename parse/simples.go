package parse

import (
	"slices"
	"strings"

	"cowrie/api"
	"cowrie/octets"
)

// simple reads words, or assignments, and redirections among them.
func (r *reader) simple() api.Cmd {
	c := api.Cmd{Kind: simple}
	for {
		if fd, op := r.redirects(); op != "" {
			c.Redirs = append(c.Redirs, r.redir(fd, op))
			continue
		}
		if r.operator() != "" || r.over() {
			break
		}
		r.operand(&c)
	}
	if len(c.Words)+len(c.Assigns)+len(c.Redirs) == 0 {
		panic(r.wrong())
	}
	r.await(c.Redirs)
	return c
}

// operand reads what comes next of a simple command, that is no redirection: an assignment, or a word. Behind an assignment there are no words, and local, which has no redirections, is not the first one behind them.
func (r *reader) operand(c *api.Cmd) {
	if len(c.Words) > 0 {
		c.Words = append(c.Words, r.word())
		return
	}
	if a, ok := r.element(); ok {
		c.Assigns = append(c.Assigns, a)
		return
	}
	next, _ := r.bare()
	at := r.at
	w := r.plain()
	a, ok := assigned(w, r.bash)
	switch {
	case ok:
		r.lists(a.Word.Parts)
		r.array(&a)
		c.Assigns = append(c.Assigns, a)
	case len(c.Assigns) > 0 || r.bash && next == "local":
		panic(fault{errno: api.ErrSyntax, place: at})
	default:
		r.lists(w.Parts)
		c.Words = append(c.Words, w)
	}
}

// assigned: the assignment that the word, which has parts, is; is it one?
func assigned(w api.Word, bash bool) (api.Assign, bool) {
	first := w.Parts[0]
	name, rest, ok := strings.Cut(first.Text, "=")
	op := "="
	if bash && strings.HasSuffix(name, "+") {
		name, op = name[:len(name)-1], "+="
	}
	if first.Kind != text || first.Quoted || !ok || !octets.Name(name) {
		return api.Assign{}, false
	}
	l := slices.Clone(w.Parts)
	l[0].Text = strings.Clone(rest)
	if rest == "" {
		l = slices.Clone(l[1:])
	}
	return api.Assign{Name: strings.Clone(name), Op: strings.Clone(op), Word: api.Word{Parts: l}}, true
}

// array reads the words of an array, if a parenthesis stands where the text of an assignment would.
func (r *reader) array(a *api.Assign) {
	if !r.bash || len(a.Word.Parts) > 0 || !strings.HasPrefix(r.s[r.at:], "(") {
		return
	}
	r.at++
	a.Array, a.List = true, r.words()
	r.wants(")")
}

// element reads the assignment of an array's element; does one come next? The place of its [ ] is a sum, whatever stands in it.
func (r *reader) element() (api.Assign, bool) {
	rest := r.s[r.space():]
	name, _, open := strings.Cut(rest[:min(len(rest), api.MaxName+1)], "[")
	if !r.bash || !open || !octets.Name(name) {
		return api.Assign{}, false
	}
	inner, behind, _ := strings.Cut(rest[len(name)+1:], "]")
	op := "="
	if strings.HasPrefix(behind, "+=") {
		op = "+="
	}
	if !strings.HasPrefix(behind, op) {
		return api.Assign{}, false
	}
	from := r.at + len(name) + 1
	x := r.sum(from, from+len(inner))
	r.at = from + len(inner) + 1 + len(op)
	w := r.here()
	r.lists(w.Parts)
	return api.Assign{Name: strings.Clone(name), Op: strings.Clone(op), Word: w, Sums: []api.Sum{x}}, true
}

// locals reads what stands behind local: names, and assignments of texts.
func (r *reader) locals() api.Cmd {
	c := api.Cmd{Kind: local}
	for r.operator() == "" && !r.over() {
		next, _ := r.bare()
		at := r.at
		w := r.plain()
		a, ok := assigned(w, false)
		switch {
		case ok:
			r.lists(a.Word.Parts)
		case octets.Name(next):
			a = api.Assign{Name: strings.Clone(next)}
		default:
			panic(fault{errno: api.ErrSyntax, place: at})
		}
		c.Assigns = append(c.Assigns, a)
	}
	return c
}
