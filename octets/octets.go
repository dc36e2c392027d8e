// Package octets is layer 1: what texts are made of. See shared/doc/01-octets.md.
package octets

import (
	"slices"
	"strings"

	"cowrie/api"
)

// Check: may the text be? An octet 0 goes ahead of its length.
func Check(s string) api.Errno {
	if !every(s, func(_ int, c byte) bool { return c != 0 }) {
		return api.ErrText
	}
	if len(s) > api.MaxText {
		return api.ErrLong
	}
	return api.OK
}

// Name: is it a name?
func Name(s string) bool {
	return s != "" && len(s) <= api.MaxName && every(s, func(i int, c byte) bool {
		return c == '_' || letter(c) || i > 0 && digit(c)
	})
}

// Reserved: is it a reserved word?
func Reserved(s string) bool {
	words := []string{
		"if", "then", "elif", "else", "fi", "do", "done", "case", "esac", "while",
		"until", "for", "in", "{", "}", "!", "function", "[[", "]]", "select",
	}
	return slices.ContainsFunc(words, func(w string) bool { return w == s })
}

// Digits: is it digits, at least one?
func Digits(s string) bool {
	return s != "" && every(s, func(_ int, c byte) bool { return digit(c) })
}

// Quote: the text as a shell reads it back.
func Quote(s string) (string, api.Errno) {
	if e := Check(s); e != api.OK {
		return "", e
	}
	if Plain(s) {
		return strings.Clone(s), api.OK
	}
	out := []byte{'\''}
	each(s, func(c byte) {
		if c == '\'' {
			out = append(out, `'\''`...)
			return
		}
		out = append(out, c)
	})
	return string(append(out, '\'')), api.OK
}

// Plain: does it stand for itself outside of quotes?
func Plain(s string) bool {
	return s != "" && every(s, func(_ int, c byte) bool {
		return letter(c) || digit(c) || strings.IndexByte("_-./:,+=@%", c) >= 0
	})
}

// Lines: the text cut behind each newline, which is left out.
func Lines(s string) []string {
	var l []string
	eachLine(s, func(line string) { l = append(l, strings.Clone(line)) })
	return l
}

// Trim: the text without newlines at its end.
func Trim(s string) string {
	return strings.Clone(strings.TrimRightFunc(s, func(r rune) bool { return r == '\n' }))
}

// Sorted: the texts in order by octets.
func Sorted(l []string) []string {
	out := make([]string, 0, len(l))
	for _, s := range l {
		out = append(out, strings.Clone(s))
	}
	slices.Sort(out)
	return out
}

// every: are all octets of s such, each asked with its place?
func every(s string, is func(i int, c byte) bool) bool {
	for i := range len(s) {
		if !is(i, s[i]) {
			return false
		}
	}
	return true
}

// each does it with all octets of s. A range over s itself would go by runes.
func each(s string, do func(c byte)) {
	for i := range len(s) {
		do(s[i])
	}
}

// eachLine does it with all lines of s; an empty rest is none.
func eachLine(s string, do func(line string)) {
	for s != "" {
		line, rest, _ := strings.Cut(s, "\n")
		do(line)
		s = rest
	}
}

func letter(c byte) bool {
	return c >= 'a' && c <= 'z' || c >= 'A' && c <= 'Z'
}

func digit(c byte) bool {
	return c >= '0' && c <= '9'
}
