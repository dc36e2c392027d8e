package print

import (
	"strconv"
	"strings"

	"cowrie/api"
	"cowrie/arith"
	"cowrie/number"
	"cowrie/octets"
)

// sum: an expression's text. The one that arith prints may be too long or too deep to be read where others are not.
func (w *writer) sum(x api.Sum) string {
	s, e := arith.Print(x)
	if !w.hold(e == api.OK) {
		return ""
	}
	for _, tell := range []func() string{
		func() string { return s },
		func() string { return dense(s, w.bash, false) },
		func() string { return dense(s, w.bash, true) },
	} {
		t := tell()
		if y, _, e := arith.Parse(t, w.bash); e == api.OK && arith.Same(x, y) {
			return t
		}
	}
	w.hold(false)
	return s
}

// dense: an expression's text with its numbers, and what stands between its signs, as short as may be. A number below 0, told as a minus of a sum, is told as a literal where that is shorter, or always, as that is within fewer others.
func dense(s string, bash, always bool) string {
	var out strings.Builder
	operand := false // does one stand right ahead?
	for s != "" {
		t := token(s)
		n := len(t)
		literal, width := below(s)
		switch {
		case !operand && width > 0 && (always || len(literal) < width):
			t, n, operand = literal, width, true
		case octets.Digits(t):
			v, _ := number.Literal(t)
			t, operand = figure(uint64(v)), true
		case t == " " && !bash: // no two signs are one there
			t = ""
		case t != " " && t != "++" && t != "--":
			operand = t == ")" || octets.Name(t)
		}
		out.WriteString(t)
		s = s[n:]
	}
	return out.String()
}

// token: a name, a number, ++ or --, or else an octet, at the beginning of an expression's text.
func token(s string) string {
	if strings.HasPrefix(s, "++") || strings.HasPrefix(s, "--") {
		return s[:2]
	}
	n := strings.IndexFunc(s, func(c rune) bool { return !octets.Digits(string(c)) && !octets.Name(string(c)) })
	if n < 0 {
		return s
	}
	return s[:max(n, 1)]
}

// below: the literal of the number below 0 that an expression's text begins with, and how long it is there; 0, if it begins with none.
func below(s string) (string, int) {
	rest, ok := strings.CutPrefix(s, "-(")
	digits := token(rest)
	v, e := number.Literal(digits)
	if !ok || e != api.OK || !strings.HasPrefix(rest[len(digits):], "+1)") {
		return "", 0
	}
	return figure(^uint64(v)), len("-(+1)") + len(digits)
}

// figure: the number's shortest literal.
func figure(v uint64) string {
	s, hex := strconv.FormatUint(v, 10), "0x"+strconv.FormatUint(v, 16)
	if len(hex) < len(s) {
		return hex
	}
	return s
}
