package lex

import (
	"fmt"
	"regexp"
	"strings"

	"cowrie/ansi"
	"cowrie/api"
	"cowrie/arith"
)

// sumShape tells an expression so that no two are told alike.
func sumShape(x api.Sum) string {
	if len(x.Kids) == 0 && x.Op == "" && x.Name == "" {
		return fmt.Sprint(x.N)
	}
	if len(x.Kids) == 0 && x.Op == "" && x.N == 0 {
		return x.Name
	}
	l := []string{x.Op}
	for _, k := range x.Kids {
		l = append(l, sumShape(k))
	}
	return "(" + strings.Join(l, " ") + ")"
}

// shape tells parts so that no two lists are told alike: t a text, e one with Op ansi, p a parameter, l $( ), s $(( )), f <( ); great letters are quoted. What should be empty is told, too, if it is not.
func shape(l []api.Part) string {
	var all []string
	for _, p := range l {
		letter, rest := "?", p
		if p.Kind >= text && p.Kind <= file {
			letter = "tplsf"[p.Kind-1 : p.Kind]
		}
		rest.Kind, rest.Quoted = 0, false
		if p.Kind == text && p.Op == "ansi" {
			letter, rest.Op = "e", ""
		}
		if p.Quoted {
			letter = strings.ToUpper(letter)
		}
		switch p.Kind {
		case text:
			letter += fmt.Sprintf("%q", p.Text)
			rest.Text = ""
		case parameter:
			letter += p.Name
			if p.Op != "" {
				letter += " " + p.Op + " "
			}
			if len(p.Word) > 0 {
				letter += "<" + shape(p.Word) + ">"
			}
			if len(p.More) > 0 {
				letter += "<<" + shape(p.More) + ">>"
			}
			rest.Name, rest.Op, rest.Word, rest.More = "", "", nil, nil
		case list, file:
			letter += fmt.Sprintf("%d%q", p.At, p.Text)
			rest.Text, rest.At = "", 0
		}
		if p.Kind == parameter || p.Kind == sum {
			for _, x := range p.Sums {
				letter += "{" + sumShape(x) + "}"
			}
			rest.Sums = nil
		}
		if more := fmt.Sprint(rest); more != fmt.Sprint(api.Part{}) {
			letter += "?" + more
		}
		all = append(all, letter)
	}
	return strings.Join(all, " ")
}

// told tells all that Word and Heredoc answer.
func told(w api.Word, end int, e api.Errno) string {
	return fmt.Sprintf("%s; %d; %d", shape(w.Parts), end, e)
}

// model reads words by the chapter's words, slowly: piece by piece, by patterns. A fault is a number and a place.
type model struct {
	s    string
	bash bool
}

// wrong is a fault; its errno is OK where there is none.
type wrong struct {
	errno api.Errno
	place int
}

var (
	gapRule      = regexp.MustCompile(`^(?:[ \t]|\\\n|#[^\n]*)*`)
	operatorRule = regexp.MustCompile(`^(?:;;|&&|\|\||>>|>&|<<|[\n;|()<>])`)
	bashOperator = regexp.MustCompile(`^(?:<<<|&>|;;|&&|\|\||>>|>&|<<|[\n;|()<>])`)
	closeRule    = regexp.MustCompile(`^(?s:\\.|'[^']*'|"(?:[^"\\]|\\.)*"|[^\\'"])`)
	quotedOne    = regexp.MustCompile(`^\\[$"\\` + "`" + `]`)
	heredocOne   = regexp.MustCompile(`^\\[$\\` + "`" + `]`)
	singleQuotes = regexp.MustCompile(`^'([^']*)'`)
	ansiQuotes   = regexp.MustCompile(`^(?s:\$'((?:[^'\\]|\\.)*)')`)
	bareName     = regexp.MustCompile(`^\$([a-zA-Z_][a-zA-Z0-9_]*|[0-9@*#?])`)
	lengthRule   = regexp.MustCompile(`^\$\{#([a-zA-Z_][a-zA-Z0-9_]*|[0-9]+|[@*#?])(\})`)
	arrayLength  = regexp.MustCompile(`^\$\{#([a-zA-Z_][a-zA-Z0-9_]*)(\[@\])`)
	plainRule    = regexp.MustCompile(`^\$\{([a-zA-Z_][a-zA-Z0-9_]*|[0-9]+|[@*#?])(\})`)
	wordRule     = regexp.MustCompile(`^\$\{([a-zA-Z_][a-zA-Z0-9_]*|[0-9]+|[@*#?])(:[-=?+]|[-=?+]|##?|%%?)`)
	bashRule     = regexp.MustCompile(`^\$\{([a-zA-Z_][a-zA-Z0-9_]*|[0-9]+|[@*#?])(:[-=?+]|\[[@*]\]|\^\^?|,,?|//?|[-=?+:[]|##?|%%?)`)
	headRule     = regexp.MustCompile(`^\$\{(#[a-zA-Z_][a-zA-Z0-9_]*|#[0-9]+|#[@*]|[a-zA-Z_][a-zA-Z0-9_]*|[0-9]+|[@*#?])`)
)

func slowSpace(s string, at int) int {
	at = min(max(at, 0), len(s))
	return at + len(gapRule.FindString(s[at:]))
}

func slowOperator(s string, at int, bash bool) string {
	at = min(max(at, 0), len(s))
	if bash {
		return bashOperator.FindString(s[at:])
	}
	return operatorRule.FindString(s[at:])
}

func slowClosed(s string, at int) (int, api.Errno) {
	at = min(max(at, 0), len(s))
	for open := 0; ; {
		piece := closeRule.FindString(s[at:])
		switch {
		case piece == "":
			return len(s), api.ErrShort
		case piece == ")" && open == 0:
			return at, api.OK
		case piece == ")":
			open--
		case piece == "(":
			open++
		}
		at += len(piece)
	}
}

// joined makes one part of texts next to each other that are quoted alike; octets come one by one.
func joined(l []api.Part) []api.Part {
	var out []api.Part
	for _, p := range l {
		n := len(out)
		if n > 0 && p.Kind == text && out[n-1].Kind == text && p.Op == "" && out[n-1].Op == "" && p.Quoted == out[n-1].Quoted {
			out[n-1].Text += p.Text
			continue
		}
		out = append(out, p)
	}
	return out
}

func slowWord(s string, at int, bash bool) string {
	at = min(max(at, 0), len(s))
	m := model{s, bash}
	l, end, f := m.read(at, "word", 0)
	if f.errno != api.OK {
		return told(api.Word{}, f.place, f.errno)
	}
	return told(api.Word{Parts: l}, end, api.OK)
}

func slowHeredoc(s string, at int, end string, plain, bash bool) string {
	at = min(max(at, 0), len(s))
	from := at
	for _, line := range strings.SplitAfter(s[at:], "\n") {
		if line == "" || strings.TrimSuffix(line, "\n") != end {
			at += len(line)
			continue
		}
		l, f := []api.Part{{Kind: text, Text: s[from:at], Quoted: true}}, wrong{}
		if !plain {
			m := model{s[:at], bash}
			l, _, f = m.read(from, "lines", 0)
		}
		if f.errno != api.OK {
			return told(api.Word{}, f.place, f.errno)
		}
		return told(api.Word{Parts: orEmpty(l)}, at+len(line), api.OK)
	}
	return told(api.Word{}, len(s), api.ErrShort)
}

// orEmpty: an empty text, if there is nothing.
func orEmpty(l []api.Part) []api.Part {
	if len(l) > 0 {
		return l
	}
	return []api.Part{{Kind: text, Quoted: true}}
}

// stops: the octets that end what is read in each way.
func stops(way string) string {
	return map[string]string{"word": " \t\n;&|<>()", "brace": "}", "pattern": "/}", "quotes": `"`, "both": "}", "lines": ""}[way]
}

// read: the parts from at on, and where they end.
func (m model) read(at int, way string, deep int) ([]api.Part, int, wrong) {
	if deep > api.MaxNest {
		return nil, 0, wrong{api.ErrDepth, at}
	}
	var l []api.Part
	for {
		rest := m.s[at:]
		file := m.bash && strings.HasPrefix(rest, "<(") && strings.Contains("word brace pattern", way)
		switch {
		case rest == "" && (way == "word" || way == "lines"):
			return joined(l), at, wrong{}
		case rest == "":
			return nil, 0, wrong{api.ErrShort, len(m.s)}
		case strings.Contains(stops(way), rest[:1]) && !file:
			return joined(l), at, wrong{}
		}
		more, end, f := m.piece(at, way, deep)
		if f.errno != api.OK {
			return nil, 0, f
		}
		l, at = append(l, more...), end
	}
}

// piece: the parts that the next piece makes.
func (m model) piece(at int, way string, deep int) ([]api.Part, int, wrong) {
	rest := m.s[at:]
	free := strings.Contains("word brace pattern", way)
	octet := func(s string, quoted bool, width int) ([]api.Part, int, wrong) {
		return []api.Part{{Kind: text, Text: s, Quoted: quoted}}, at + width, wrong{}
	}
	switch {
	case strings.HasPrefix(rest, "\\\n"):
		return nil, at + 2, wrong{}
	case rest == `\`:
		return nil, 0, wrong{api.ErrShort, len(m.s)}
	case rest[0] == '`' || rest[0] == '"' && way == "both":
		return nil, 0, wrong{api.ErrSyntax, at}
	case rest[0] == '\\':
		rule := map[string]*regexp.Regexp{"quotes": quotedOne, "both": quotedOne, "lines": heredocOne}[way]
		if free || rule.MatchString(rest) {
			return octet(rest[1:2], true, 2)
		}
		return octet(`\`, true, 1)
	case free && rest[0] == '\'':
		if found := singleQuotes.FindStringSubmatch(rest); found != nil {
			return octet(found[1], true, len(found[0]))
		}
		return nil, 0, wrong{api.ErrShort, len(m.s)}
	case free && rest[0] == '"':
		l, end, f := m.read(at+1, "quotes", deep)
		return orEmpty(l), end + 1, f
	case free && m.bash && strings.HasPrefix(rest, "<("):
		return m.list(at, at+2, api.Part{Kind: file})
	case rest[0] == '$':
		return m.dollar(at, way, deep)
	}
	return octet(rest[:1], !free, 1)
}

// list: what stands from from up to its ).
func (m model) list(at, from int, p api.Part) ([]api.Part, int, wrong) {
	end, e := slowClosed(m.s, from)
	if e != api.OK {
		return nil, 0, wrong{e, end}
	}
	p.Text, p.At = m.s[from:end], from
	return []api.Part{p}, end + 1, wrong{}
}

// dollar: what a $ begins.
func (m model) dollar(at int, way string, deep int) ([]api.Part, int, wrong) {
	rest := m.s[at:]
	free := strings.Contains("word brace pattern", way)
	ansiText := ansiQuotes.FindStringSubmatch(rest)
	name := bareName.FindStringSubmatch(rest)
	switch {
	case strings.HasPrefix(rest, "$(("):
		end, e := slowClosed(m.s, at+3)
		if e == api.OK && end+1 == len(m.s) {
			end, e = len(m.s), api.ErrShort
		}
		if e != api.OK {
			return nil, 0, wrong{e, end}
		}
		if m.s[end+1] != ')' {
			return nil, 0, wrong{api.ErrSyntax, end + 1}
		}
		x, place, e := arith.Parse(m.s[at+3:end], m.bash)
		return []api.Part{{Kind: sum, Quoted: !free, Sums: []api.Sum{x}}}, end + 2, wrong{e, at + 3 + place}
	case strings.HasPrefix(rest, "$("):
		return m.list(at, at+2, api.Part{Kind: list, Quoted: !free})
	case strings.HasPrefix(rest, "${"):
		return m.braces(at, way, deep)
	case free && m.bash && ansiText != nil:
		s, place, e := ansi.Decode(ansiText[1])
		return []api.Part{{Kind: text, Text: s, Op: "ansi", Quoted: true}}, at + len(ansiText[0]), wrong{e, at + 2 + place}
	case free && m.bash && strings.HasPrefix(rest, "$'"):
		return nil, 0, wrong{api.ErrShort, len(m.s)}
	case name != nil && len(name[1]) > api.MaxName:
		return nil, 0, wrong{api.ErrLong, at + 1}
	case name != nil:
		return []api.Part{{Kind: parameter, Name: name[1], Quoted: !free}}, at + len(name[0]), wrong{}
	}
	return []api.Part{{Kind: text, Text: "$", Quoted: true}}, at + 1, wrong{}
}

// braces: what ${ begins.
func (m model) braces(at int, way string, deep int) ([]api.Part, int, wrong) {
	rest := m.s[at:]
	p := api.Part{Kind: parameter, Quoted: !strings.Contains("word brace pattern", way)}
	rules := []struct {
		rule *regexp.Regexp
		op   string
		bash bool
	}{{lengthRule, "len", false}, {arrayLength, "len[@]", true}, {plainRule, "", false}, {bashRule, "?", true}, {wordRule, "?", false}}
	for _, r := range rules {
		found := r.rule.FindStringSubmatch(rest)
		if found == nil || r.bash && !m.bash {
			continue
		}
		p.Name, p.Op = found[1], r.op
		end := at + len(found[0])
		if len(p.Name) > api.MaxName && !strings.Contains("0123456789", p.Name[:1]) {
			return nil, 0, wrong{api.ErrLong, at + strings.Index(rest, p.Name)}
		}
		f := wrong{}
		if p.Op == "?" {
			p.Op = found[2]
			p, end, f = m.operand(p, end, way, deep)
		} else if p.Op != "len[@]" {
			end-- // its } is asked for below
		}
		switch {
		case f.errno != api.OK:
			return nil, 0, f
		case end == len(m.s):
			return nil, 0, wrong{api.ErrShort, end}
		case m.s[end] != '}':
			return nil, 0, wrong{api.ErrSyntax, end}
		}
		return []api.Part{p}, end + 1, wrong{}
	}
	return nil, 0, m.headless(at)
}

// headless: what is wrong with a ${ that no rule reads.
func (m model) headless(at int) wrong {
	rest := m.s[at:]
	head := headRule.FindString(rest)
	if name := strings.TrimLeft(strings.TrimPrefix(head, "${"), "#"); len(name) > api.MaxName && !strings.Contains("0123456789", name[:1]) {
		return wrong{api.ErrLong, at + strings.Index(rest, name)}
	}
	if head == "" {
		head = "${"
	}
	behind := rest[len(head):]
	array := m.bash && regexp.MustCompile(`^\$\{#[a-zA-Z_]`).MatchString(head) && (behind == "[" || behind == "[@")
	op := behind == ":" && (head == "${#" || len(head) > 2 && head[2] != '#')
	if behind == "" || op || array {
		return wrong{api.ErrShort, len(m.s)}
	}
	return wrong{api.ErrSyntax, at + len(head)}
}

// operand: what stands behind an Op, up to the } that should be there.
func (m model) operand(p api.Part, at int, way string, deep int) (api.Part, int, wrong) {
	inner := "brace"
	if p.Quoted {
		inner = "both"
	}
	var f wrong
	switch p.Op {
	case "[@]", "[*]", "^", "^^", ",", ",,":
		return p, at, wrong{}
	case "[":
		p.Op = "[]"
		end := strings.IndexByte(m.s[at:], ']')
		if end < 0 {
			return p, 0, wrong{api.ErrShort, len(m.s)}
		}
		x, place, e := arith.Parse(m.s[at:at+end], m.bash)
		p.Sums = []api.Sum{x}
		return p, at + end + 1, wrong{e, at + place}
	case ":":
		return m.span(p, at)
	case "#", "##", "%", "%%":
		inner = "brace"
	case "/", "//":
		p.Word, at, f = m.read(at, "pattern", deep+1)
		if f.errno != api.OK || m.s[at] == '}' {
			return p, at, f
		}
		p.More, at, f = m.read(at+1, inner, deep+1)
		return p, at, f
	}
	p.Word, at, f = m.read(at, inner, deep+1)
	return p, at, f
}

// span: one sum, or two: it is two, where one ends at a : that may not stand in it.
func (m model) span(p api.Part, at int) (api.Part, int, wrong) {
	width := strings.IndexByte(m.s[at:], '}')
	if width < 0 {
		return p, 0, wrong{api.ErrShort, len(m.s)}
	}
	all := m.s[at : at+width]
	x, place, e := arith.Parse(all, m.bash)
	if e == api.ErrSyntax && place < len(all) && all[place] == ':' {
		y, second, f := arith.Parse(all[place+1:], m.bash)
		if x, _, e = arith.Parse(all[:place], m.bash); e == api.OK {
			p.Sums = []api.Sum{x, y}
			return p, at + width, wrong{f, at + place + 1 + second}
		}
	}
	p.Sums = []api.Sum{x}
	return p, at + width, wrong{e, at + place}
}
