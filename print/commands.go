package print

import (
	"slices"
	"strings"

	"cowrie/api"
	"cowrie/lex"
	"cowrie/number"
	"cowrie/octets"
)

// command writes a command at such a place.
func (w *writer) command(c api.Cmd, place int) {
	if !w.hold(placeOf(c.Kind) >= place && shapeOf(c.Kind).fits(c) && (w.bash || c.Kind < question)) {
		return
	}
	if placeOf(c.Kind) < single {
		w.joined(c)
		return
	}
	if !w.hold(w.level <= api.MaxNest) {
		return
	}
	w.level++
	w.alone(c)
	w.level--
}

// joined writes a command that is others with signs between, or ahead.
func (w *writer) joined(c api.Cmd) {
	switch c.Kind {
	case sequence:
		w.between(c.Kids, chained, w.line)
	case both:
		w.pair(c, " && ")
	case either:
		w.pair(c, " || ")
	case opposite:
		w.put("! ")
		w.command(c.Kids[0], piped)
	case pipeline:
		w.between(c.Kids, single, func() { w.put(" | ") })
	}
}

// between writes commands at such places, and does that between.
func (w *writer) between(l []api.Cmd, place int, do func()) {
	for i, c := range l {
		if i > 0 {
			do()
		}
		w.command(c, place)
	}
}

// pair writes a command that is two with a sign between, from the left.
func (w *writer) pair(c api.Cmd, sign string) {
	w.command(c.Kids[0], chained)
	w.put(sign)
	w.command(c.Kids[1], signed)
}

// alone writes a command of all other kinds.
func (w *writer) alone(c api.Cmd) {
	switch c.Kind {
	case simple:
		w.simple(c)
	case function:
		w.function(c)
	case local:
		w.put("local")
		w.row(mapped(c.Assigns, w.own))
	default:
		w.compound(c)
		w.row(mapped(c.Redirs, w.redir))
	}
}

// simple writes words, or assignments, and redirections: ahead, if the first word would be no word there.
func (w *writer) simple(c api.Cmd) {
	w.hold(len(c.Words) == 0 || len(c.Assigns) == 0)
	w.hold(len(c.Words)+len(c.Assigns)+len(c.Redirs) > 0)
	l, redirs := append(mapped(c.Assigns, w.assign), mapped(c.Words, w.word)...), mapped(c.Redirs, w.redir)
	if len(c.Words) > 0 {
		l[0] = w.unlike(l[0])
		if octets.Reserved(l[0]) {
			w.hold(len(redirs) > 0)
			l, redirs = redirs, l
		}
	}
	w.put(strings.Join(append(l, redirs...), " "))
}

// unlike: the text of a first word, such that it is not read as local, nor as an assignment. The one of an element is told by octets alone, as far as the next ] .
func (w *writer) unlike(s string) string {
	name, _, ok := strings.Cut(s, "=")
	w.hold(!ok || !octets.Name(name) && !(w.bash && octets.Name(strings.TrimSuffix(name, "+"))))
	w.hold(!w.bash || s != "local")
	name, _, ok = strings.Cut(s, "[")
	_, behind, closed := strings.Cut(s, "]")
	if !w.bash || !ok || !octets.Name(name) || closed && !strings.HasPrefix(behind, "=") && !strings.HasPrefix(behind, "+=") {
		return s
	}
	return name + "\\\n" + s[len(name):]
}

// assign: the text of an assignment.
func (w *writer) assign(a api.Assign) string {
	w.hold(octets.Name(a.Name) && (a.Op == "=" || w.bash && a.Op == "+="))
	w.hold(w.bash || !a.Array && len(a.Sums) == 0)
	w.hold(a.Array || len(a.List) == 0)
	switch {
	case a.Array:
		w.hold(len(a.Sums) == 0 && len(a.Word.Parts) == 0)
		return a.Name + a.Op + "(" + strings.Join(mapped(a.List, w.word), " ") + ")"
	case len(a.Sums) > 0:
		w.hold(len(a.Sums) == 1)
		return a.Name + "[" + w.sum(a.Sums[0]) + "]" + a.Op + w.value(a.Word)
	}
	return a.Name + a.Op + w.value(a.Word)
}

// own: the text of a local variable, with what is assigned to it or without.
func (w *writer) own(a api.Assign) string {
	w.hold(octets.Name(a.Name) && !a.Array && len(a.Sums) == 0 && len(a.List) == 0)
	w.hold(a.Op == "=" || a.Op == "" && len(a.Word.Parts) == 0)
	return a.Name + a.Op + w.value(a.Word)
}

// redir: the text of a redirection.
func (w *writer) redir(r api.Redir) string {
	w.hold(r.FD >= 0 && r.FD <= 2)
	ops := []string{"<", ">", ">>", ">&", "<<"}
	if w.bash {
		ops = append(ops, "<<<", "&>")
	}
	if !w.hold(slices.Contains(ops, r.Op)) {
		return ""
	}
	usual := 1
	if r.Op[0] == '<' {
		usual = 0
	}
	if r.FD == usual {
		return r.Op + w.target(r)
	}
	return number.Print(r.FD) + r.Op + w.target(r)
}

// target: what stands behind the sign of a redirection.
func (w *writer) target(r api.Redir) string {
	if r.Op == "<<" {
		return w.heredoc(r.Word.Parts)
	}
	if r.Op == ">&" {
		s, _ := lex.Literal(r.Word)
		w.hold(s == "1" || s == "2")
	}
	s := w.word(r.Word)
	if strings.HasPrefix(s, "<") { // it would be one sign with that
		return " " + s
	}
	return s
}

// heredoc: the word that ends a heredoc, whose lines wait then. They are plain, if they are nothing but text that ends with a newline.
func (w *writer) heredoc(l []api.Part) string {
	if !w.hold(!w.inner && len(l) > 0) {
		return ""
	}
	if s := l[0].Text; len(l) == 1 && l[0].Kind == text && (s == "" || strings.HasSuffix(s, "\n")) {
		w.hold(l[0].Quoted && only(l[0]))
		return w.await(s, true)
	}
	s := w.tight(l, inLines)
	if !strings.HasSuffix(s, "\n") {
		s += "\\\n"
	}
	return w.await(s, false)
}

// function writes a function. Ahead of ( ) its name may not be a reserved word.
func (w *writer) function(c api.Cmd) {
	w.hold(octets.Name(c.Name))
	if octets.Reserved(c.Name) {
		w.hold(w.bash)
		w.put("function ", c.Name, " ")
	} else {
		w.put(c.Name, "() ")
	}
	w.command(c.Kids[0], compound)
}
