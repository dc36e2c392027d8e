package print

import (
	"fmt"
	"math/rand"
	"strings"
	"testing"

	"cowrie/ansi"
	"cowrie/api"
	"cowrie/arith"
	"cowrie/parse"
)

// grower makes commands by chance: most of them have a text, but many have something that no text makes.
type grower struct{ *rand.Rand }

// odd: something strange, now and then.
func (g grower) odd() bool { return g.Intn(200) == 0 }

func (g grower) of(all string) string {
	l := strings.Split(all, "|")
	return strings.ReplaceAll(l[g.Intn(len(l))], "BAR", "|")
}

func many[T any](g grower, least, most int, make func() T) []T {
	var l []T
	for range least + g.Intn(most-least+1) {
		l = append(l, make())
	}
	return l
}

func (g grower) text(quoted bool) api.Part {
	s := g.of("a|b|ab|if|!|a=|a+=b|a[|a[1]|]=|]]|x|=|-n|1|2|*|#|local|function|{|a|b|c|d")
	if quoted || g.odd() {
		s = g.of("|a| |'|\"|\\|$|`|}|{|/|(|)|<(|\n|EOF\n|a\nb\n|#|;|&|BAR|a'b|a\"b|x|y")
	}
	return api.Part{Kind: text, Text: s, Quoted: quoted}
}

func (g grower) sum() api.Sum {
	x, _, _ := arith.Parse(g.of("1|x|x+1|(x+1)*y|-1|x?1:2|x=1|- -x|-x|18446744073709551615|x<1|x,y"), true)
	if g.odd() {
		x, _, _ = arith.Parse(g.of("x++|--y|x**2"), true)
	}
	if g.odd() {
		x.Op = "+"
	}
	return x
}

// parts: parts of a word; tight: within quotes.
func (g grower) parts(least, most, deep int, tight bool) []api.Part {
	var l []api.Part
	for _, p := range many(g, least, most, func() api.Part { return g.part(deep, tight) }) {
		loose := func(p api.Part) bool { return p.Kind == text && !p.Quoted }
		if len(l) == 0 || !loose(p) || !loose(l[len(l)-1]) || g.odd() {
			l = append(l, p)
		}
	}
	return l
}

func (g grower) part(deep int, tight bool) api.Part {
	quoted := tight != g.odd()
	if !tight && g.Intn(3) == 0 {
		quoted = true
	}
	if deep < 0 || g.Intn(2) == 0 {
		p := g.text(quoted)
		if quoted && g.Intn(10) == 0 {
			p.Op = "ansi"
		}
		return p
	}
	p := api.Part{Quoted: quoted, At: g.Intn(3)}
	switch g.Intn(8) {
	case 0:
		p.Kind, p.Sums = sum, []api.Sum{g.sum()}
	case 1, 2:
		p.Kind = list
		if g.Intn(5) > 0 {
			p.List = []api.Cmd{g.list(deep - 1)}
		}
	case 3:
		p.Kind, p.Quoted = file, quoted && g.odd()
		p.List = []api.Cmd{g.list(deep - 1)}
	default:
		p.Kind, p.Name = parameter, g.of("a|x|1|12|@|*|#|?|#|x|if")
		p.Op = g.of("||:-|-|:=|=|:?|?|:+|+|#|##|%|%%|len|:|/|//|^|^^|,|,,|[]|[@]|[*]|len[@]")
		needs, _ := needOf(p.Op)
		if needs.words > 0 {
			p.Word = g.parts(0, 2, deep-1, quoted && !strings.Contains("# ## %% // ", p.Op+" "))
		}
		if needs.words > 1 {
			p.More = g.parts(0, 2, deep-1, quoted)
		}
		p.Sums = many(g, needs.sums.least, needs.sums.most, g.sum)
	}
	return p
}

func (g grower) word(deep int) api.Word {
	if g.odd() {
		return api.Word{}
	}
	return api.Word{Parts: g.parts(1, 3, deep, false)}
}

func (g grower) words(least, most, deep int) []api.Word {
	return many(g, least, most, func() api.Word { return g.word(deep) })
}

func (g grower) redirs(deep int) []api.Redir {
	if g.Intn(3) > 0 {
		return nil
	}
	return many(g, 1, 2, func() api.Redir {
		r := api.Redir{FD: g.Intn(3), Op: g.of("<|>|>>|>&|<<|<<|<<<|&>"), Word: g.word(deep)}
		switch {
		case r.Op == ">&" && !g.odd():
			r.Word = word(bareText(g.of("1|2")))
		case r.Op == "<<" && !g.odd():
			r.Word.Parts = g.parts(1, 3, deep, true)
		}
		return r
	})
}

func (g grower) assign(own bool, deep int) api.Assign {
	a := api.Assign{Name: g.of("a|b|if|x1"), Op: g.of("=|=|+="), Word: api.Word{Parts: g.parts(0, 2, deep, false)}}
	switch g.Intn(6) {
	case 0:
		a.Sums = []api.Sum{g.sum()}
	case 1:
		a.Array, a.List, a.Word = true, g.words(0, 2, deep), api.Word{}
	}
	if own && !g.odd() {
		a.Op, a.Sums, a.Array, a.List = "=", nil, false, nil
		if g.Intn(3) == 0 {
			a.Op, a.Word = "", api.Word{}
		}
	}
	return a
}

func (g grower) cond(deep int) api.Cond {
	if deep > 0 && g.Intn(2) == 0 {
		x := api.Cond{Op: g.of("&&|BARBAR|!"), Kids: []api.Cond{g.cond(deep - 1)}}
		if (x.Op != "!") != g.odd() {
			x.Kids = append(x.Kids, g.cond(deep-1))
		}
		return x
	}
	switch g.Intn(3) {
	case 0:
		return api.Cond{Op: "word", Words: g.words(1, 1, 0)}
	case 1:
		return api.Cond{Op: g.of("-n|-z|-e|-s"), Words: g.words(1, 1, 0)}
	}
	return api.Cond{Op: g.of("=|==|!=|-eq|-ge"), Words: g.words(2, 2, 0)}
}

// list: a command where most kinds may stand.
func (g grower) list(deep int) api.Cmd { return g.cmd(listed, deep) }

// cmd: a command at such a place.
func (g grower) cmd(place, deep int) api.Cmd {
	if place < compound && (deep <= 0 || g.Intn(3) == 0) {
		return g.simple(deep)
	}
	kind := 0
	for placeOf(kind) < place && !g.odd() || kind == none {
		kind = 1 + g.Intn(local)
	}
	kids := func(n, place int) []api.Cmd {
		return many(g, n, n, func() api.Cmd { return g.cmd(place, deep-1) })
	}
	c := api.Cmd{Kind: kind, At: g.Intn(3)}
	switch kind {
	case simple:
		return g.simple(deep)
	case sequence:
		c.Kids = kids(2, chained)
	case both, either:
		c.Kids = append(kids(1, chained), kids(1, signed)...)
	case opposite:
		c.Kids = kids(1, piped)
	case pipeline:
		c.Kids = kids(2, single)
	case subshell, group:
		c.Kids, c.Redirs = kids(1, listed), g.redirs(0)
	case branch:
		c.Kids, c.Redirs = kids(2+g.Intn(2), listed), g.redirs(0)
	case while, until:
		c.Kids, c.Redirs = kids(2, listed), g.redirs(0)
	case each:
		c.Name, c.Kids, c.Redirs = g.of("x|in|if"), kids(1, listed), g.redirs(0)
		if g.Intn(2) == 0 {
			c.Cases = []api.Case{{}}
		} else {
			c.Words = g.words(0, 2, 0)
		}
	case choice:
		c.Words, c.Redirs = g.words(1, 1, 0), g.redirs(0)
		c.Cases = many(g, 0, 2, func() api.Case {
			k := api.Case{Pats: g.words(1, 2, 0)}
			if g.Intn(3) > 0 {
				k.Body = g.list(deep - 1)
			}
			return k
		})
	case function:
		c.Name, c.Kids = g.of("f|g|f|local|if|function"), kids(1, compound)
	case question:
		c.Conds, c.Redirs = []api.Cond{g.cond(2)}, g.redirs(0)
	case arithmetic:
		c.Sums, c.Redirs = many(g, 1, 1, g.sum), g.redirs(0)
	case counting:
		c.Sums, c.Kids, c.Redirs = many(g, 3, 3, g.sum), kids(1, listed), g.redirs(0)
	case local:
		c.Assigns = many(g, 0, 2, func() api.Assign { return g.assign(true, 0) })
	}
	return c
}

func (g grower) simple(deep int) api.Cmd {
	c := api.Cmd{Kind: simple, Redirs: g.redirs(deep - 1)}
	if g.Intn(4) == 0 {
		c.Assigns = many(g, 1, 2, func() api.Assign { return g.assign(false, deep-1) })
	} else {
		c.Words = g.words(1, 3, deep-1)
	}
	return c
}

// speller writes whatever command it is given in one of many ways, by chance, and asks nothing of it: what it writes may tell another one.
type speller struct {
	*rand.Rand
	bash    bool
	waiting string
}

func (r *speller) of(l ...string) string { return l[r.Intn(len(l))] }

// newline ends a line; heredocs wait for it.
func (r *speller) newline() string {
	s := "\n" + r.waiting
	r.waiting = ""
	return s
}

func (r *speller) quoted(s string) string {
	if r.bash && r.Intn(4) == 0 {
		s, _ := ansi.Encode(s)
		return "$'" + s + "'"
	}
	if r.Intn(2) == 0 && s != "" && !strings.Contains(s, "\n") {
		var out strings.Builder
		for i := range len(s) {
			out.WriteString("\\" + s[i:i+1])
		}
		return out.String()
	}
	if r.Intn(2) == 0 {
		return `"` + r.tight([]api.Part{{Kind: text, Text: s}}, false) + `"`
	}
	return "'" + strings.ReplaceAll(s, "'", `'"'"'`) + "'"
}

// tight: parts within quotes, or (lines) in a heredoc.
func (r *speller) tight(l []api.Part, lines bool) string {
	var out strings.Builder
	for _, p := range l {
		switch {
		case p.Kind != text:
			out.WriteString(r.other(p, true))
		case lines:
			out.WriteString(strings.NewReplacer(`\`, `\\`, `$`, `\$`, "`", "\\`").Replace(p.Text))
		default:
			out.WriteString(strings.NewReplacer(`\`, `\\`, `$`, `\$`, "`", "\\`", `"`, `\"`).Replace(p.Text))
		}
	}
	return out.String()
}

func (r *speller) loose(l []api.Part) string {
	var out strings.Builder
	for _, p := range l {
		switch {
		case p.Kind == text && p.Quoted:
			out.WriteString(r.quoted(p.Text))
		case p.Kind == text:
			out.WriteString(strings.ReplaceAll(p.Text, "<(", r.of("<(", "<\\\n(")))
		case p.Quoted:
			out.WriteString(`"` + r.other(p, true) + `"`)
		default:
			out.WriteString(r.other(p, false))
		}
	}
	return out.String()
}

func sumText(x api.Sum) string {
	s, _ := arith.Print(x)
	return s
}

func (r *speller) other(p api.Part, tight bool) string {
	switch p.Kind {
	case list, file:
		in := speller{Rand: r.Rand, bash: r.bash}
		s := ""
		for _, c := range p.List {
			s += in.cmd(c)
		}
		return map[int]string{list: "$(", file: "<("}[p.Kind] + r.of("", " ", "\n") + s + r.of("", "\n") + ")"
	case sum:
		return "$(( " + sumText(p.Sums[0]) + " ))"
	}
	inner := func(l []api.Part, tight bool) string {
		if tight {
			return r.tight(l, false)
		}
		return r.loose(l)
	}
	head := "${" + p.Name + p.Op + r.of("", "", "\\\n")
	switch p.Op {
	case "":
		return r.of("${"+p.Name+"}", "$"+p.Name)
	case "len", "len[@]":
		return "${#" + p.Name + strings.TrimPrefix(p.Op, "len") + "}"
	case "[]":
		return "${" + p.Name + "[" + sumText(p.Sums[0]) + "]}"
	case ":":
		l := mapped(p.Sums, sumText)
		return "${" + p.Name + ":" + r.of("", " ") + strings.Join(l, ":") + "}"
	case "#", "##", "%", "%%":
		return head + inner(p.Word, false) + "}"
	case "/", "//":
		return head + inner(p.Word, false) + r.of("/", "/\\\n") + inner(p.More, tight) + "}"
	case "^", "^^", ",", ",,", "[@]", "[*]":
		return "${" + p.Name + p.Op + "}"
	}
	return head + inner(p.Word, tight) + "}"
}

func (r *speller) word(w api.Word) string { return r.loose(w.Parts) }

func (r *speller) assign(a api.Assign) string {
	s := a.Name
	for _, x := range a.Sums {
		s += "[" + sumText(x) + "]"
	}
	s += a.Op + r.word(a.Word)
	if a.Array {
		s += "( " + strings.Join(mapped(a.List, r.word), " ") + " )"
	}
	return s
}

func (r *speller) redir(d api.Redir) string {
	if d.Op != "<<" {
		return fmt.Sprint(d.FD) + d.Op + " " + r.word(d.Word)
	}
	end := fmt.Sprint("E", r.Intn(1000))
	s := r.tight(d.Word.Parts, true)
	if !strings.HasSuffix(s, "\n") && s != "" {
		s += "\\\n"
	}
	r.waiting += s + end + "\n"
	return fmt.Sprint(d.FD) + "<<" + end
}

func (r *speller) cond(x api.Cond) string {
	l := mapped(x.Words, r.word)
	switch {
	case len(x.Kids) > 1:
		return "( " + r.cond(x.Kids[0]) + " ) " + x.Op + " ( " + r.cond(x.Kids[1]) + " )"
	case len(x.Kids) > 0:
		return "! ( " + r.cond(x.Kids[0]) + " )"
	case len(l) > 1:
		return l[0] + " " + x.Op + " " + l[1]
	case x.Op == "word":
		return l[0]
	}
	return x.Op + " " + l[0]
}

// block: words, a command and what ends its line, one after another.
func (r *speller) block(l ...any) string {
	s := ""
	for _, x := range l {
		if c, ok := x.(api.Cmd); ok {
			s += " " + r.cmd(c) + r.newline()
		} else {
			s += fmt.Sprint(x)
		}
	}
	return s
}

func (r *speller) cmd(c api.Cmd) string {
	s := ""
	k := append(append([]api.Cmd{}, c.Kids...), make([]api.Cmd, 3)...)
	switch c.Kind {
	case simple:
		l := append(mapped(c.Assigns, r.assign), mapped(c.Words, r.word)...)
		redirs := mapped(c.Redirs, r.redir)
		if r.Intn(2) == 0 {
			return strings.Join(append(redirs, l...), " ")
		}
		return strings.Join(append(l, redirs...), " ")
	case sequence, pipeline:
		for i, x := range c.Kids {
			if i > 0 && c.Kind == pipeline {
				s += " | "
			} else if i > 0 {
				s += r.newline()
			}
			s += r.cmd(x)
		}
	case both:
		s = r.cmd(k[0]) + " && " + r.cmd(k[1])
	case either:
		s = r.cmd(k[0]) + " || " + r.cmd(k[1])
	case opposite:
		s = "! " + r.cmd(k[0])
	case subshell:
		s = r.block("(", k[0], ")")
	case group:
		s = r.block("{", k[0], "}")
	case branch:
		s = r.block("if", k[0], "then", k[1])
		if len(c.Kids) > 2 {
			s += r.block("else", k[2])
		}
		s += "fi"
	case while:
		s = r.block("while", k[0], "do", k[1], "done")
	case until:
		s = r.block("until", k[0], "do", k[1], "done")
	case each:
		s = "for " + c.Name
		if len(c.Cases) == 0 {
			s += " in " + strings.Join(mapped(c.Words, r.word), " ")
		}
		s += r.newline() + r.block("do", k[0], "done")
	case choice:
		s = "case " + r.word(c.Words[0]) + " in" + r.newline()
		for _, x := range c.Cases {
			s += "(" + strings.Join(mapped(x.Pats, r.word), "|") + ") "
			if x.Body.Kind != none {
				s += r.cmd(x.Body)
			}
			s += r.newline() + ";;" + r.newline()
		}
		s += "esac"
	case function:
		s = c.Name + "() "
		if r.bash {
			s = r.of(s, "function "+c.Name+" ")
		}
		s += r.cmd(k[0])
	case question:
		s = "[[ " + r.cond(c.Conds[0]) + " ]]"
	case arithmetic:
		s = "((" + sumText(c.Sums[0]) + "))"
	case counting:
		s = "for ((" + strings.Join(mapped(c.Sums, sumText), ";") + "))" + r.newline() + r.block("do", k[0], "done")
	case local:
		s = strings.Join(append([]string{"local"}, mapped(c.Assigns, r.assign)...), " ")
	}
	for _, d := range c.Redirs {
		s += " " + r.redir(d)
	}
	return s
}

// TestGrown: P15.1, P15.2, of commands made by chance: what Script tells is read as the command; what is written of it by chance, and is read, is printed; and where Script tells that there is no text, none of those is read as the command.
func TestGrown(t *testing.T) {
	g := grower{rand.New(rand.NewSource(4))}
	told, none, read := 0, 0, 0
	for i := range 12000 {
		c := g.list(i % 3)
		for _, bash := range []bool{false, true} {
			_, ok := comesBack(t, c, bash)
			if ok {
				told++
			} else {
				none++
			}
			r := speller{Rand: g.Rand, bash: bash}
			for range 4 {
				s := r.cmd(c) + r.newline()
				d, _, e := parse.Script(s, bash)
				if e != api.OK {
					continue
				}
				read++
				printed(t, s, bash)
				if !ok && parse.Same(Bare(c), Bare(d)) {
					t.Errorf("P15.1: Script tells no text of %v, %v, but there is %q", c, bash, s)
				}
			}
		}
		if t.Failed() {
			return
		}
	}
	if told < 10000 || none < 5000 || read < 30000 {
		t.Error("P15.1: so many had a text, so many had none, and so many texts were read:", told, none, read)
	}
}
