package print

import (
	"strings"

	"cowrie/api"
	"cowrie/octets"
)

// need is what an Op has behind it: words, at most two of them, or sums; and whether bash alone has it.
type need struct {
	words int
	sums  span
	bash  bool
}

// needOf: what the Op has behind it; is it one?
func needOf(op string) (need, bool) {
	switch op {
	case "", "len":
		return need{}, true
	case ":-", "-", ":=", "=", ":?", "?", ":+", "+", "#", "##", "%", "%%":
		return need{words: 1}, true
	case "/", "//":
		return need{words: 2, bash: true}, true
	case "[]":
		return need{sums: span{1, 1}, bash: true}, true
	case ":":
		return need{sums: span{1, 2}, bash: true}, true
	case "^", "^^", ",", ",,", "[@]", "[*]", "len[@]":
		return need{bash: true}, true
	}
	return need{}, false
}

// parameter: the text of a parameter within its braces.
func (w *writer) parameter(p api.Part, way int) string {
	n, ok := needOf(p.Op)
	w.hold(ok && (w.bash || !n.bash) && n.sums.holds(len(p.Sums)))
	w.hold((n.words > 0 || len(p.Word) == 0) && (n.words > 1 || len(p.More) == 0))
	name := octets.Name(p.Name)
	w.hold(name || octets.Digits(p.Name) || len(p.Name) == 1 && strings.Contains("@*#?", p.Name))
	switch {
	case p.Op == "len":
		return "#" + p.Name
	case p.Op == "len[@]":
		w.hold(name)
		return "#" + p.Name + "[@]"
	case p.Op == "[]":
		return p.Name + "[" + strings.Join(mapped(p.Sums, w.sum), ":") + "]"
	case p.Op == ":":
		return p.Name + ":" + apart(strings.Join(mapped(p.Sums, w.sum), ":"))
	case n.words > 0:
		return p.Name + p.Op + w.change(p, way)
	}
	return p.Name + p.Op
}

// apart: the text of sums behind : , which would be another Op with a sign right behind it.
func apart(s string) string {
	if strings.HasPrefix(s, "-") || strings.HasPrefix(s, "+") {
		return " " + s
	}
	return s
}

// change: the words that stand behind an Op. A newline that is left out keeps the Op from being another one with what is behind it: a longer one, or the name's length.
func (w *writer) change(p api.Part, way int) string {
	inner := inBraces
	if way >= inQuotes {
		inner = inBoth
	}
	s := ""
	switch p.Op {
	case "#", "##", "%", "%%":
		s = w.within(p.Word, inBraces)
	case "/", "//":
		s = w.within(p.Word, inPattern)
		if len(p.More) > 0 {
			s += "/" + w.within(p.More, inner)
		}
	default:
		s = w.within(p.Word, inner)
	}
	_, longer := needOf(p.Op + s[:min(len(s), 1)])
	if s != "" && longer || s == "" && p.Name == "#" && (p.Op == "#" || p.Op == "?") {
		return "\\\n" + s
	}
	return s
}
