package parse

import (
	"strings"

	"cowrie/api"
)

// copied: a list of copies.
func copied[T any](l []T, one func(T) T) []T {
	var out []T
	for _, x := range l {
		out = append(out, one(x))
	}
	return out
}

// copyCmd: a command that shares no memory with c; so do those below with what they copy.
func copyCmd(c api.Cmd) api.Cmd {
	return api.Cmd{
		Kind:    c.Kind,
		Name:    strings.Clone(c.Name),
		Words:   copied(c.Words, copyWord),
		Assigns: copied(c.Assigns, copyAssign),
		Redirs:  copied(c.Redirs, copyRedir),
		Kids:    copied(c.Kids, copyCmd),
		Cases:   copied(c.Cases, copyCase),
		Conds:   copied(c.Conds, copyCond),
		Sums:    copied(c.Sums, copySum),
		At:      c.At,
	}
}

func copyWord(w api.Word) api.Word {
	return api.Word{Parts: copied(w.Parts, copyPart)}
}

func copyPart(p api.Part) api.Part {
	return api.Part{
		Kind:   p.Kind,
		Text:   strings.Clone(p.Text),
		Name:   strings.Clone(p.Name),
		Op:     strings.Clone(p.Op),
		Quoted: p.Quoted,
		Word:   copied(p.Word, copyPart),
		More:   copied(p.More, copyPart),
		Sums:   copied(p.Sums, copySum),
		List:   copied(p.List, copyCmd),
		At:     p.At,
	}
}

func copyAssign(a api.Assign) api.Assign {
	return api.Assign{
		Name:  strings.Clone(a.Name),
		Op:    strings.Clone(a.Op),
		Word:  copyWord(a.Word),
		Sums:  copied(a.Sums, copySum),
		Array: a.Array,
		List:  copied(a.List, copyWord),
	}
}

func copyRedir(r api.Redir) api.Redir {
	return api.Redir{FD: r.FD, Op: strings.Clone(r.Op), Word: copyWord(r.Word)}
}

func copyCase(k api.Case) api.Case {
	return api.Case{Pats: copied(k.Pats, copyWord), Body: copyCmd(k.Body)}
}

func copyCond(x api.Cond) api.Cond {
	return api.Cond{Op: strings.Clone(x.Op), Words: copied(x.Words, copyWord), Kids: copied(x.Kids, copyCond)}
}

func copySum(x api.Sum) api.Sum {
	return api.Sum{Op: strings.Clone(x.Op), Name: strings.Clone(x.Name), N: x.N, Kids: copied(x.Kids, copySum)}
}
