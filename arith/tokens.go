package arith

import (
	"slices"
	"strings"

	"cowrie/api"
	"cowrie/number"
	"cowrie/octets"
)

// The kinds of tokens. A stray one may stand nowhere.
const (
	stray = iota
	ending
	figure
	name
	mark
)

// fault tells what is wrong with a text, and where: it is what reading panics with.
type fault struct {
	errno api.Errno
	place int
}

// token is a piece of a text: a name or a mark has its text, a figure its number n.
type token struct {
	kind  int
	place int
	text  string
	n     int
}

// tokens cuts a text into tokens; its own token is the one that reading stands at, and at is the place behind that.
type tokens struct {
	s    string
	bash bool
	at   int
	token
}

// next goes on to the next token.
func (t *tokens) next() {
	for t.at < len(t.s) && strings.IndexByte(" \t\n", t.s[t.at]) >= 0 {
		t.at++
	}
	rest := t.s[t.at:]
	t.token = token{place: t.at}
	switch {
	case rest == "":
		t.kind = ending
	case rest[0] == '$':
		t.at++
		t.asName(run(rest[1:]))
	case digit(rest[0]):
		t.asFigure(run(rest))
	case run(rest) != "":
		t.asName(run(rest))
	default:
		t.asMark(rest[:markWidth(rest, t.bash)])
	}
}

// asName makes those octets the token, which is a name or stray.
func (t *tokens) asName(s string) {
	t.at += len(s)
	if octets.Name(s) {
		t.kind, t.text = name, s
	}
}

// asFigure makes those octets the token, which is a number or stray.
func (t *tokens) asFigure(s string) {
	t.at += len(s)
	if n, e := number.Literal(s); e == api.OK {
		t.kind, t.n = figure, n
	}
}

// asMark makes those octets the token, which is a mark, or stray if there are none.
func (t *tokens) asMark(s string) {
	t.at += len(s)
	if s != "" {
		t.kind, t.text = mark, s
	}
}

// is: is the token one of those marks?
func (t *tokens) is(marks ...string) bool {
	return t.kind == mark && slices.Contains(marks, t.text)
}

// joins: is the token an operator of that level, which stands between two?
func (t *tokens) joins(level int) bool {
	return t.kind == mark && levelOf(t.text) == level
}

// take: the token's text; goes on to the next one.
func (t *tokens) take() string {
	text := t.text
	t.next()
	return text
}

// want goes on behind a mark, which must stand there.
func (t *tokens) want(text string) {
	if !t.is(text) {
		panic(t.wrong(api.ErrSyntax))
	}
	t.next()
}

// wrong: that fault, at the token.
func (t *tokens) wrong(errno api.Errno) fault {
	return fault{errno, t.place}
}

// run: the letters, digits and _ at the beginning of s. They are one token, whether it tells something or not.
func run(s string) string {
	n := 0
	for n < len(s) && (s[n] == '_' || digit(s[n]) || s[n] >= 'a' && s[n] <= 'z' || s[n] >= 'A' && s[n] <= 'Z') {
		n++
	}
	return s[:n]
}

func digit(c byte) bool {
	return c >= '0' && c <= '9'
}

// markWidth: how many octets the longest mark at the beginning of s has; 0, if there is none.
func markWidth(s string, bash bool) int {
	for n := min(3, len(s)); n > 0; n-- {
		switch s[:n] {
		case "**", "++", "--":
			// Without bash they are two marks each: --x is a minus of a minus.
			if bash {
				return n
			}
		case "<<=", ">>=", "*=", "/=", "%=", "+=", "-=", "&=", "^=", "|=", "<<", ">>", "<=", ">=", "==", "!=", "&&", "||",
			"!", "~", "*", "/", "%", "+", "-", "<", ">", "&", "^", "|", "=", ",", "?", ":", "(", ")":
			return n
		}
	}
	return 0
}
