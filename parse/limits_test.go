package parse

import (
	"strings"
	"testing"

	"cowrie/api"
)

// ends holds what Script answers of a script: the place and the error.
func ends(t *testing.T, what, s string, bash bool, place int, errno api.Errno) {
	t.Helper()
	c, n, e := Script(s, bash)
	if n != place || e != errno || e != api.OK && shape(c) != "none0()" {
		t.Errorf("P14.1: %s, %v: %d, %d, not %d, %d", what, bash, n, e, place, errno)
	}
}

// TestOctets: scripts that are too long, or have an octet 0. What may not stand there, what ends too early, and what lex tells of a script that is not too long, are told ahead of that.
func TestOctets(t *testing.T) {
	blanks := strings.Repeat(" ", api.MaxFile)
	words := strings.Repeat("ab ", api.MaxFile/3)
	for _, bash := range []bool{false, true} {
		ends(t, "blanks", blanks, bash, api.MaxFile, api.OK)
		ends(t, "more blanks", blanks+" ", bash, 0, api.ErrLong)
		ends(t, "newlines", strings.Repeat("\n", api.MaxFile+1), bash, 0, api.ErrLong)
		ends(t, "words", words+"a", bash, api.MaxFile, api.OK)
		ends(t, "more words", words+"ab", bash, 0, api.ErrLong)
		ends(t, "one word", strings.Repeat("a", api.MaxFile), bash, api.MaxFile, api.OK)
		ends(t, "one longer word", strings.Repeat("a", api.MaxFile+1), bash, 0, api.ErrLong)
		ends(t, "many long commands", strings.Repeat("a;", api.MaxFile), bash, 0, api.ErrLong)
		ends(t, "blanks and a )", blanks+")", bash, api.MaxFile, api.ErrSyntax)
		ends(t, "( and blanks", "("+blanks, bash, api.MaxFile+1, api.ErrShort)
		ends(t, "a quote and blanks", "'"+blanks, bash, api.MaxFile+1, api.ErrShort)
		ends(t, "many (", strings.Repeat("( ", api.MaxFile), bash, 0, api.ErrLong)
		ends(t, "blanks and an octet 0", blanks+"\x00", bash, 0, api.ErrLong)
		ends(t, "an octet 0", "\x00", bash, 0, api.ErrText)
		ends(t, "the first octet 0", "a b\x00 \x00", bash, 3, api.ErrText)
		ends(t, "a quoted octet 0", "a 'b\x00'", bash, 4, api.ErrText)
		ends(t, "an octet 0 in a remark", "a #\x00", bash, 3, api.ErrText)
		ends(t, "an octet 0 in a list", "a $(b \x00)", bash, 6, api.ErrText)
		ends(t, "an octet 0 in a heredoc", "a <<E\n\x00\nE\n", bash, 6, api.ErrText)
		ends(t, "an octet 0 and a )", "a\x00 )", bash, 3, api.ErrSyntax)
		ends(t, "an octet 0 and no )", "(a\x00", bash, 3, api.ErrShort)
		ends(t, "an octet 0 and what lex tells", "a\x00 $"+strings.Repeat("b", 65), bash, 4, api.ErrLong)
		ends(t, "an octet 0, too deep", strings.Repeat("{ ", 25)+"\x00"+strings.Repeat("\n}", 25), bash, 50, api.ErrText)
		ends(t, "an octet 0, too many", strings.Repeat("a\n", api.MaxCmds)+"\x00", bash, 2*api.MaxCmds, api.ErrText)
	}
}

// TestNest: commands within 24 others, and within more; of each form how many others there are, and where the first one stands that is within them.
func TestNest(t *testing.T) {
	for _, x := range []struct {
		what, open, close, dialects string
		others, first               int
	}{
		{"( )", "( ", " )", "sb", 1, 2},
		{"{ }", "{ ", "\n}", "sb", 1, 2},
		{"if", "if ", "\nthen a; fi", "sb", 1, 3},
		{"then", "if a; then ", "\nfi", "sb", 1, 3},
		{"else", "if a; then b; else ", "\nfi", "sb", 1, 3},
		{"elif", "if a; then b; elif ", "\nthen c; fi", "sb", 1, 3},
		{"while", "while ", "\ndo a; done", "sb", 1, 6},
		{"do", "until a; do ", "\ndone", "sb", 1, 6},
		{"for", "for x in a; do ", "\ndone", "sb", 1, 15},
		{"case", "case a in b) ", ";; esac", "sb", 1, 13},
		{"functions", "f() { ", "\n}", "sb", 2, 4},
		{"$( )", "a $(", ")", "sb", 1, 4},
		{"<( )", "a <(", ")", "b", 1, 4},
		{"${ $( )}", "a ${x-$(", ")}", "sb", 1, 8},
		{"redirections", "a >$(", ")", "sb", 1, 5},
		{"[[ ]]", "[[ $(", ") ]]", "b", 1, 5},
		{"for (( ))", "for ((;;)) do ", "\ndone", "b", 1, 14},
		{"groups in lists", "a $({ ", "\n})", "sb", 2, 4},
		{"chains", "{ a && b || ", "\n}", "sb", 1, 2},
	} {
		for _, d := range strings.Split(x.dialects, "") {
			most := api.MaxNest / x.others
			s := strings.Repeat(x.open, most) + "a" + strings.Repeat(x.close, most)
			if c, n, e := Script(s, d == "b"); (e != api.OK || Deep(c) < api.MaxNest) && (e != api.ErrDepth || n != len(s)) {
				t.Errorf("P14.1: %s, %s: commands within 24 others: %d, %d", x.what, d, n, e)
			}
			place := most*len(x.open) + x.first
			s = strings.Repeat(x.open, most+1) + "a" + strings.Repeat(x.close, most+1)
			ends(t, x.what, s, d == "b", place, api.ErrDepth)
			if !strings.Contains(x.open, "$(") && !strings.Contains(x.open, "<(") { // else lex tells first that a word does not end
				ends(t, x.what+" that do not end", s[:place+1], d == "b", place, api.ErrDepth)
			}
		}
	}
	many := strings.Repeat("if a; then b; elif ", 1) + strings.Repeat("a; then b; elif ", 40) + "a; then b; fi"
	ends(t, "elif", many, false, len(many), api.OK)
	deep := strings.Repeat("{ ", 23) + "a <<E\n$(b)\nE\n" + strings.Repeat("\n}", 23)
	ends(t, "a heredoc's list", deep, false, len(deep), api.OK)
	deep = strings.Repeat("{ ", 24) + "a <<E\n$(b)\nE\n" + strings.Repeat("\n}", 24)
	ends(t, "a heredoc's list, too deep", deep, false, strings.Index(deep, "b"), api.ErrDepth)
	deep = strings.Repeat("{ ", 23) + "a <<E | { b;\n$(b)\nE\n} " + strings.Repeat("\n}", 23)
	ends(t, "a heredoc's list, read in a group", deep, false, len(deep), api.OK)
}

// TestMost: commands that are deeper than may be, and more than may be. Of both the depth is told.
func TestMost(t *testing.T) {
	for _, bash := range []bool{false, true} {
		s := strings.Repeat("a && ", api.MaxDeep-1) + "a"
		ends(t, "60 deep", s, bash, len(s), api.OK)
		s = strings.Repeat("a || ", api.MaxDeep) + "a"
		ends(t, "61 deep", s, bash, len(s), api.ErrDepth)
		s = "x=$(" + strings.Repeat("a && ", api.MaxDeep-1) + "a)"
		ends(t, "61 deep in a list", s, bash, len(s), api.ErrDepth)
		s = strings.Repeat("a\n", api.MaxCmds-1)
		ends(t, "as many as may be", s, bash, len(s), api.OK)
		s = strings.Repeat("a\n", api.MaxCmds)
		ends(t, "one more", s, bash, len(s), api.ErrCount)
		s = strings.Repeat("$(a)\n", api.MaxCmds/2)
		ends(t, "too many in lists", s, bash, len(s), api.ErrCount)
		s += strings.Repeat("a && ", api.MaxDeep) + "a"
		ends(t, "too many, too deep", s, bash, len(s), api.ErrDepth)
		ends(t, "too many, and a )", s+" )", bash, len(s)+1, api.ErrSyntax)
	}
}
