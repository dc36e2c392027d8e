package print

import (
	"slices"
	"strings"

	"cowrie/api"
)

// mapped: what one makes of each in the list.
func mapped[T, U any](l []T, one func(T) U) []U {
	var out []U
	for _, x := range l {
		out = append(out, one(x))
	}
	return out
}

// bareCmd: a command, bare, that shares no memory with c; so do those below with what they make bare.
func bareCmd(c api.Cmd) api.Cmd {
	return api.Cmd{
		Kind:    c.Kind,
		Name:    strings.Clone(c.Name),
		Words:   mapped(c.Words, bareWord),
		Assigns: mapped(c.Assigns, bareAssign),
		Redirs:  mapped(c.Redirs, bareRedir),
		Kids:    mapped(c.Kids, bareCmd),
		Cases:   mapped(c.Cases, bareCase),
		Conds:   mapped(c.Conds, bareCond),
		Sums:    mapped(c.Sums, bareSum),
		At:      c.At,
	}
}

func bareWord(w api.Word) api.Word {
	return api.Word{Parts: bareParts(w.Parts)}
}

// bareParts: parts, of quoted texts next to each other the first one with the texts of all.
func bareParts(l []api.Part) []api.Part {
	var out []api.Part
	for len(l) > 0 {
		n := slices.IndexFunc(l, func(p api.Part) bool { return p.Kind != text || !p.Quoted })
		if n < 0 {
			n = len(l)
		}
		p := barePart(l[0])
		if n > 1 {
			p.Text = strings.Join(mapped(l[:n], func(p api.Part) string { return p.Text }), "")
		}
		out, l = append(out, p), l[max(n, 1):]
	}
	return out
}

func barePart(p api.Part) api.Part {
	op := p.Op
	if p.Kind == text && op == "ansi" {
		op = ""
	}
	return api.Part{
		Kind:   p.Kind,
		Text:   strings.Clone(p.Text),
		Name:   strings.Clone(p.Name),
		Op:     strings.Clone(op),
		Quoted: p.Quoted,
		Word:   bareParts(p.Word),
		More:   bareParts(p.More),
		Sums:   mapped(p.Sums, bareSum),
		List:   mapped(p.List, bareCmd),
		At:     p.At,
	}
}

func bareAssign(a api.Assign) api.Assign {
	return api.Assign{
		Name:  strings.Clone(a.Name),
		Op:    strings.Clone(a.Op),
		Word:  bareWord(a.Word),
		Sums:  mapped(a.Sums, bareSum),
		Array: a.Array,
		List:  mapped(a.List, bareWord),
	}
}

func bareRedir(r api.Redir) api.Redir {
	return api.Redir{FD: r.FD, Op: strings.Clone(r.Op), Word: bareWord(r.Word)}
}

func bareCase(k api.Case) api.Case {
	return api.Case{Pats: mapped(k.Pats, bareWord), Body: bareCmd(k.Body)}
}

func bareCond(x api.Cond) api.Cond {
	return api.Cond{Op: strings.Clone(x.Op), Words: mapped(x.Words, bareWord), Kids: mapped(x.Kids, bareCond)}
}

func bareSum(x api.Sum) api.Sum {
	return api.Sum{Op: strings.Clone(x.Op), Name: strings.Clone(x.Name), N: x.N, Kids: mapped(x.Kids, bareSum)}
}
