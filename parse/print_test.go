package parse

import (
	"fmt"
	"math/rand"
	"strings"
	"testing"

	"cowrie/api"
	"cowrie/arith"
)

// teller writes commands as scripts, one way for each of what they have.
type teller struct {
	strings.Builder
	lines []string
}

// say writes words with blanks ahead.
func (w *teller) say(l ...string) {
	for _, s := range l {
		w.WriteString(" " + s)
	}
}

// line writes a newline, and the heredocs that wait for it.
func (w *teller) line() {
	w.WriteString("\n" + strings.Join(w.lines, ""))
	w.lines = nil
}

// list writes commands, and what stands behind them.
func (w *teller) list(c api.Cmd, behind string) {
	if c.Kind != none {
		w.cmd(c)
	}
	w.line()
	w.say(behind)
}

func sumText(x api.Sum) string {
	s, _ := arith.Print(x)
	return s
}

// escaped: the text with \ ahead of what is special within " ", or in a heredoc.
func escaped(s string, quote bool) string {
	l := []string{`\`, `\\`, `$`, `\$`, "`", "\\`"}
	if quote {
		l = append(l, `"`, `\"`)
	}
	return strings.NewReplacer(l...).Replace(s)
}

// partsText: parts as they stand in a word, or (inner) within " " or (lines) in a heredoc.
func partsText(l []api.Part, inner, lines bool) string {
	var out strings.Builder
	for _, p := range l {
		s := ""
		switch {
		case p.Kind == 1 && (inner || lines):
			s = escaped(p.Text, inner)
		case p.Kind == 1 && p.Quoted:
			s = `"` + escaped(p.Text, true) + `"`
		case p.Kind == 1:
			s = p.Text
		case p.Quoted && !inner && !lines:
			s = `"` + otherText(p, true, false) + `"`
		default:
			s = otherText(p, inner, lines)
		}
		out.WriteString(s)
	}
	return out.String()
}

// otherText: a part that is no text.
func otherText(p api.Part, inner, lines bool) string {
	var in teller
	switch p.Kind {
	case 3, 5:
		for _, c := range p.List {
			in.list(c, "")
		}
		return map[int]string{3: "$(", 5: "<("}[p.Kind] + in.String() + ")"
	case 4:
		return "$((" + sumText(p.Sums[0]) + "))"
	}
	pattern := partsText(p.Word, false, false)
	word := partsText(p.Word, inner || lines, false)
	switch p.Op {
	case "len":
		return "${#" + p.Name + "}"
	case "#", "##", "%", "%%":
		word = pattern
	}
	return "${" + p.Name + p.Op + word + "}"
}

func wordText(w api.Word) string {
	return partsText(w.Parts, false, false)
}

func wordTexts(l []api.Word) []string {
	var out []string
	for _, x := range l {
		out = append(out, wordText(x))
	}
	return out
}

func (w *teller) redirs(l []api.Redir) {
	for _, r := range l {
		if r.Op != "<<" {
			w.say(fmt.Sprint(r.FD) + r.Op + " " + wordText(r.Word))
			continue
		}
		text, end := partsText(r.Word.Parts, false, true), fmt.Sprint("END", len(w.lines))
		w.say(fmt.Sprint(r.FD) + "<<" + end)
		w.lines = append(w.lines, text+end+"\n")
	}
}

func (w *teller) assigns(l []api.Assign) {
	for _, a := range l {
		s := a.Name
		for _, x := range a.Sums {
			s += "[" + sumText(x) + "]"
		}
		s += a.Op + wordText(a.Word)
		if a.Array {
			s += "( " + strings.Join(wordTexts(a.List), " ") + " )"
		}
		w.say(s)
	}
}

func condText(x api.Cond) string {
	switch {
	case x.Op == "!":
		return "! ( " + condText(x.Kids[0]) + " )"
	case len(x.Kids) > 0:
		return "( " + condText(x.Kids[0]) + " ) " + x.Op + " ( " + condText(x.Kids[1]) + " )"
	case x.Op == "word":
		return wordText(x.Words[0])
	case len(x.Words) == 1:
		return x.Op + " " + wordText(x.Words[0])
	}
	return wordText(x.Words[0]) + " " + x.Op + " " + wordText(x.Words[1])
}

// cmd writes a command.
func (w *teller) cmd(c api.Cmd) {
	switch c.Kind {
	case simple:
		w.assigns(c.Assigns)
		w.say(wordTexts(c.Words)...)
	case sequence, both, either, pipeline:
		for i, k := range c.Kids {
			if i > 0 && c.Kind != sequence {
				w.say(map[int]string{both: "&&", either: "||", pipeline: "|"}[c.Kind])
			}
			if i > 0 {
				w.line()
			}
			w.cmd(k)
		}
	case opposite:
		w.say("!")
		w.cmd(c.Kids[0])
	case subshell:
		w.say("(")
		w.list(c.Kids[0], ")")
	case group:
		w.say("{")
		w.list(c.Kids[0], "}")
	case branch:
		w.say("if")
		w.list(c.Kids[0], "then")
		w.list(c.Kids[1], "")
		if len(c.Kids) > 2 {
			w.say("else")
			w.list(c.Kids[2], "")
		}
		w.say("fi")
	case while, until, each, counting:
		w.loop(c)
	case choice:
		w.say("case", wordText(c.Words[0]), "in")
		for _, k := range c.Cases {
			w.say("( " + strings.Join(wordTexts(k.Pats), " | ") + " )")
			w.list(k.Body, ";;")
		}
		w.say("esac")
	case function:
		w.say(c.Name + "()")
		w.cmd(c.Kids[0])
	case question:
		w.say("[[ " + condText(c.Conds[0]) + " ]]")
	case sum:
		w.say("((" + sumText(c.Sums[0]) + "))")
	case local:
		w.say("local")
		w.assigns(c.Assigns)
	}
	w.redirs(c.Redirs)
}

func (w *teller) loop(c api.Cmd) {
	last := len(c.Kids) - 1
	switch c.Kind {
	case while:
		w.say("while")
	case until:
		w.say("until")
	case each:
		w.say("for", c.Name)
		if len(c.Cases) == 0 {
			w.say("in")
			w.say(wordTexts(c.Words)...)
		}
	case counting:
		w.say("for ((" + sumText(c.Sums[0]) + ";" + sumText(c.Sums[1]) + ";" + sumText(c.Sums[2]) + "))")
	}
	if last > 0 {
		w.cmd(c.Kids[0])
	}
	w.line()
	w.say("do")
	w.list(c.Kids[last], "done")
}

// again asks that what is read of a script is read again of its print, and tells whether there is anything to be read.
func again(t *testing.T, s string, bash bool) bool {
	t.Helper()
	c, _, e := Script(s, bash)
	if e != api.OK {
		return false
	}
	var w teller
	w.list(c, "")
	d, n, e := Script(w.String(), bash)
	if e != api.OK || !Same(c, d) {
		t.Errorf("P14.2: %q, %v, is %s, but its print %q is %s", s, bash, shape(c), w.String(), told(d, n, e))
	}
	return true
}

// TestAgain: P14.2, what is read is read again of its print.
func TestAgain(t *testing.T) {
	for _, s := range []string{"", "a", "a; b && c | d || ! e", "! a | b", "a=b c= d='e f'", "a >b 2>>c <d 2>&1 <<E\nf $g \\` \\$ \" \nE\n", "a <<'E'\nf $g `h` \\ \"\nE\n", "if a; then b; elif c; then d; else e; fi >f", "while a; do b; done", "for x do a; done", "for x in; do a; done", "for x in a 'b c'; do a; done", "case a in b|c) d;; e) ;; esac", "f() (a; b)", "a $(b; c) \"$(d)\" ${e:-f \"g\"} \"${h#*i}\" $((1 + j))", "a[1]=b c+=d e=(f g)", "[[ a = b && ! ( -n c || d ) ]]", "((a++))", "for ((a = 0; a < 1; a++)); do b; done", "local a b=c", "a <(b) <<<c &>d"} {
		if !again(t, s, true) && !again(t, s, false) {
			t.Errorf("P14.2: %q is not read", s)
		}
	}
	m := maker{rand.New(rand.NewSource(3))}
	good := 0
	for range 2000 {
		made := m.list(3)
		for _, bash := range []bool{false, true} {
			if again(t, script(made), bash) {
				good++
			}
		}
	}
	if good < 1000 {
		t.Error("P14.2: so many scripts were read:", good)
	}
}
