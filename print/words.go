package print

import (
	"slices"
	"sort"
	"strings"

	"cowrie/api"
	"cowrie/lex"
)

// The ways in which parts stand, each with its end. From inQuotes on all of them are quoted.
const (
	alone     = iota // a word
	inBraces         // the word in ${ }
	inPattern        // what / looks for in ${ }
	inQuotes         // within " "
	inBoth           // the word in ${ } within " "
	inLines          // the lines of a heredoc
)

// word: the text of a word that others may stand ahead of.
func (w *writer) word(x api.Word) string {
	s := w.value(x)
	w.hold(s != "" && s[0] != '#')
	return s
}

// value: the text of a word that stands right behind something; it may be empty, or begin as a remark does.
func (w *writer) value(x api.Word) string {
	return w.loose(x.Parts, alone)
}

// within: the text of a word in ${ }, in that way.
func (w *writer) within(l []api.Part, way int) string {
	if !w.hold(w.braces < api.MaxNest) {
		return ""
	}
	tell := w.loose
	if way >= inQuotes {
		tell = w.tight
	}
	w.braces++
	s := tell(l, way)
	w.braces--
	return s
}

// loose: the text of parts that quotes may stand among.
func (w *writer) loose(l []api.Part, way int) string {
	var out strings.Builder
	open := false
	for len(l) > 0 {
		p, n := l[0], w.quotable(l)
		bare := p.Kind == text && !p.Quoted
		switch {
		case bare:
			w.hold(only(p) && !open)
			out.WriteString(w.plain(p.Text, way))
		case p.Kind == text && n < 2:
			w.hold(only(p))
			out.WriteString(quoted(p.Text, w.flipped()))
		case n > 0:
			w.quotes++
			out.WriteString(`"` + w.tight(l[:n], inQuotes) + `"`)
			w.quotes--
		default:
			out.WriteString(w.part(p, way))
		}
		open, l = bare, l[max(n, 1):]
	}
	return out.String()
}

// flipped: does what stands here stand within quotes for those who pair them octet by octet? Then no text stands within " ", which would be outside for them, nor a " within ' '.
func (w *writer) flipped() bool {
	return w.inner && w.quotes > 0
}

// quotable: how many parts at the list's beginning may stand within one " ". An empty text would be lost there.
func (w *writer) quotable(l []api.Part) int {
	n := slices.IndexFunc(l, func(p api.Part) bool { return !p.Quoted || p.Kind == text && (p.Text == "" || w.flipped()) })
	if n < 0 {
		return len(l)
	}
	return n
}

// tight: the text of parts that are all quoted by what they stand within.
func (w *writer) tight(l []api.Part, way int) string {
	var out strings.Builder
	for _, p := range l {
		w.hold(p.Quoted)
		if p.Kind != text {
			out.WriteString(w.part(p, way))
			continue
		}
		w.hold(only(p) && p.Text != "")
		out.WriteString(w.escaped(p.Text, way))
	}
	return out.String()
}

// plain: the text of what is not quoted. In braces <( would begin a list, if no newline that is left out stood between.
func (w *writer) plain(s string, way int) string {
	never := "`\\$'\""
	switch way {
	case alone:
		never += " \t\n;&|<>()"
	case inBraces:
		never += "}"
	case inPattern:
		never += "}/"
	}
	w.hold(s != "" && !strings.ContainsAny(s, never))
	return strings.ReplaceAll(s, "<(", "<\\\n(")
}

// quoted: the text within ' ', each ' of its own without, and each " if it is to.
func quoted(s string, marks bool) string {
	l := []string{"'", `'\''`}
	if marks {
		l = append(l, `"`, `'\"'`)
	}
	return "'" + strings.NewReplacer(l...).Replace(s) + "'"
}

// escaped: the text with \ ahead of what is special where it stands. Nothing takes from } that it ends a word.
func (w *writer) escaped(s string, way int) string {
	w.hold(way != inBoth || !strings.Contains(s, "}"))
	l := []string{`\`, `\\`, `$`, `\$`, "`", "\\`"}
	if way != inLines {
		l = append(l, `"`, `\"`)
	}
	return strings.NewReplacer(l...).Replace(s)
}

// only: has the part nothing but what its kind has?
func only(p api.Part) bool {
	change := p.Name == "" && p.Op == "" && len(p.Word)+len(p.More) == 0
	switch p.Kind {
	case text:
		return change && len(p.Sums)+len(p.List) == 0
	case parameter:
		return p.Text == "" && len(p.List) == 0
	case sum:
		return change && p.Text == "" && len(p.List) == 0 && len(p.Sums) == 1
	case list, file:
		return change && p.Text == "" && len(p.Sums) == 0 && len(p.List) < 2
	}
	return false
}

// part: the text of a part that is no text.
func (w *writer) part(p api.Part, way int) string {
	w.hold(only(p))
	switch p.Kind {
	case parameter:
		return "${" + w.parameter(p, way) + "}"
	case list:
		return "$(" + w.commands(p) + ")"
	case sum:
		return "$((" + strings.Join(mapped(p.Sums, w.sum), "") + "))"
	case file:
		w.hold(w.bash && way < inQuotes)
		return "<(" + w.commands(p) + ")"
	}
	return ""
}

// commands: the text of the list that a part has; what the part has as its text, if it has no list.
func (w *writer) commands(p api.Part) string {
	s := p.Text
	if len(p.List) > 0 {
		in := writer{bash: w.bash, inner: true, level: w.level}
		if w.inner {
			in.quotes = w.quotes
		}
		in.list(p.List[0])
		w.hold(!in.wrong)
		s = strings.TrimSuffix(in.String(), "\n")
	}
	if strings.HasPrefix(s, "(") { // $(( would begin a sum
		s = " " + s
	}
	return paired(s)
}

// paired: the text of a list, such that its quotes and parentheses pair as lex.Closed goes over them, whatever they mean where they stand. If they don't, remarks have what they lack.
func paired(s string) string {
	if end, _ := lex.Closed(s+")", 0); end == len(s) {
		return s
	}
	s = opened(s) + "\n# "
	for _, quote := range []string{"", "'", `"`} {
		all := s + quote + strings.Repeat(")", strings.Count(s, "(")+1)
		if end, e := lex.Closed(all, 0); e == api.OK {
			return all[:end] + "\n"
		}
	}
	return s
}

// opened: the text of a list with as many parentheses ahead as its others lack.
func opened(s string) string {
	ahead := func(n int) string { return "# " + strings.Repeat("(", n) + "\n" + s }
	n := sort.Search(strings.Count(s, ")"), func(n int) bool {
		_, e := lex.Closed(ahead(n), 0)
		return e != api.OK
	})
	if n == 0 {
		return s
	}
	return ahead(n)
}
