package parse

import (
	"fmt"
	"strings"

	"cowrie/api"
)

// sumShape tells an expression so that no two are told alike.
func sumShape(x api.Sum) string {
	if len(x.Kids) == 0 && x.Op == "" && x.Name == "" {
		return fmt.Sprint(x.N)
	}
	if len(x.Kids) == 0 && x.Op == "" && x.N == 0 {
		return x.Name
	}
	l := []string{x.Op}
	for _, k := range x.Kids {
		l = append(l, sumShape(k))
	}
	return "(" + strings.Join(l, " ") + ")"
}

// sumsShape tells sums, each in { }.
func sumsShape(l []api.Sum) string {
	var all strings.Builder
	for _, x := range l {
		all.WriteString("{" + sumShape(x) + "}")
	}
	return all.String()
}

// partShape tells a part: a text as it is, or in ' ' if it is quoted (e ahead of one with Op ansi); ahead of others stands " if they are quoted. What should be empty is told, too, if it is not. The list is told by a function.
func partShape(p api.Part, lists func(api.Part) string) string {
	rest, out := p, ""
	rest.Kind, rest.Quoted, rest.Sums = 0, false, nil
	switch p.Kind {
	case 1:
		out, rest.Text = p.Text, ""
		if p.Quoted {
			out = "'" + p.Text + "'"
		}
		if p.Op == "ansi" {
			out, rest.Op = "e"+out, ""
		}
	case 2:
		out = "${" + p.Name + p.Op + "<" + partsShape(p.Word, lists) + "><" + partsShape(p.More, lists) + ">" + sumsShape(p.Sums) + "}"
		out = strings.ReplaceAll(strings.ReplaceAll(out, "<><>", ""), "><>", ">")
		rest.Name, rest.Op, rest.Word, rest.More = "", "", nil, nil
	case 3, 5:
		out = fmt.Sprintf("%s%d(%s)", map[int]string{3: "$", 5: "<"}[p.Kind], p.At, lists(p))
		rest.At, rest.List, rest.Text = 0, nil, ""
	case 4:
		out = "$" + sumsShape(p.Sums)
	}
	if p.Quoted && p.Kind != 1 {
		out = `"` + out
	}
	if more := fmt.Sprint(rest); more != fmt.Sprint(api.Part{}) {
		out += "?" + more
	}
	return out
}

func partsShape(l []api.Part, lists func(api.Part) string) string {
	var all strings.Builder
	for _, p := range l {
		all.WriteString(partShape(p, lists))
	}
	return all.String()
}

// listShape tells the commands that a part has.
func listShape(p api.Part) string {
	var l []string
	for _, c := range p.List {
		l = append(l, shape(c))
	}
	if p.Text != "" {
		l = append(l, "?"+p.Text)
	}
	return strings.Join(l, " ")
}

func wordShape(w api.Word) string {
	return partsShape(w.Parts, listShape)
}

// wordsShape tells words, each with a blank ahead.
func wordsShape(l []api.Word) string {
	var all strings.Builder
	for _, w := range l {
		all.WriteString(" " + wordShape(w))
	}
	return all.String()
}

func assignShape(a api.Assign) string {
	out := a.Name
	if len(a.Sums) > 0 {
		out += "[" + sumsShape(a.Sums) + "]"
	}
	out += a.Op + wordShape(a.Word)
	if a.Array || len(a.List) > 0 {
		out += "(" + wordsShape(a.List) + " )"
	}
	return out
}

func condShape(x api.Cond) string {
	out := x.Op + wordsShape(x.Words)
	for _, k := range x.Kids {
		out += " " + condShape(k)
	}
	return "(" + out + ")"
}

// kindNames: what shape calls the kinds.
func kindNames() []string {
	return strings.Fields("none cmd seq and or not pipe sub group if while until for case fun cond sum loop local")
}

// shape tells a command so that no two are told alike: its kind, place and name, and in ( ) words, assignments, redirections, commands, cases, conditions, sums.
func shape(c api.Cmd) string {
	name := fmt.Sprint("?", c.Kind)
	if c.Kind >= 0 && c.Kind < len(kindNames()) {
		name = kindNames()[c.Kind]
	}
	if c.Name != "" {
		name += ":" + c.Name
	}
	out := wordsShape(c.Words)
	for _, a := range c.Assigns {
		out += " " + assignShape(a)
	}
	for _, r := range c.Redirs {
		out += fmt.Sprintf(" %d%s%s", r.FD, r.Op, wordShape(r.Word))
	}
	for _, k := range c.Kids {
		out += " " + shape(k)
	}
	for _, k := range c.Cases {
		out += " {" + wordsShape(k.Pats) + ": " + shape(k.Body) + "}"
	}
	for _, x := range c.Conds {
		out += " " + condShape(x)
	}
	if len(c.Sums) > 0 {
		out += " " + sumsShape(c.Sums)
	}
	return fmt.Sprintf("%s%d(%s)", name, c.At, strings.TrimPrefix(out, " "))
}

// told tells all that Script answers.
func told(c api.Cmd, n int, e api.Errno) string {
	return fmt.Sprintf("%s; %d; %d", shape(c), n, e)
}
