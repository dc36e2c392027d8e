package parse

import (
	"slices"

	"cowrie/api"
	"cowrie/lex"
)

// redirects: which redirection comes next, and of which input or output, which a digit right ahead of it may tell; an empty operator, if none does.
func (r *reader) redirects() (fd int, op string) {
	at := r.space()
	if op = r.operatorAt(at); redirecting(op) {
		if op[0] != '<' {
			fd = 1
		}
		return fd, op
	}
	if at == len(r.s) || r.s[at] < '0' || r.s[at] > '2' {
		return 0, ""
	}
	if op = r.operatorAt(at + 1); !redirecting(op) {
		return 0, ""
	}
	r.at = at + 1
	return int(r.s[at] - '0'), op
}

// redirecting: is it the operator of a redirection?
func redirecting(op string) bool {
	return slices.Contains([]string{"<", ">", ">>", ">&", "<<", "<<<", "&>"}, op)
}

// redir reads the redirection of that operator, which comes next.
func (r *reader) redir(fd int, op string) api.Redir {
	if op == "<<" && r.inner {
		panic(r.wrong())
	}
	r.at += len(op)
	at := r.space()
	w := r.plain()
	s, ok := lex.Literal(w)
	if op == "<<" && !ok || op == ">&" && s != "1" && s != "2" {
		panic(fault{errno: api.ErrSyntax, place: at})
	}
	r.lists(w.Parts)
	return api.Redir{FD: fd, Op: op, Word: w}
}

// await leaves the lines of heredocs to the next newline. Up to then the word of each is the one that ends them. The list must not move any more.
func (r *reader) await(l []api.Redir) {
	depth := r.depth
	every(l, func(d *api.Redir) bool {
		if d.Op == "<<" {
			r.waiting = append(r.waiting, func() { d.Word = r.heredoc(d.Word, depth) })
		}
		return true
	})
}

// heredoc reads the lines from here on up to the one that is the word's text, of a command within so many.
func (r *reader) heredoc(end api.Word, depth int) api.Word {
	w, behind, e := lex.Heredoc(r.s, r.at, lex.Text(end), lex.Quoted(end), r.bash)
	r.hold(e, behind)
	r.at = behind
	around := r.depth
	r.depth = depth
	r.lists(w.Parts)
	r.depth = around
	return w
}
