package lex

import (
	"fmt"
	"math"
	"strings"
	"testing"

	"cowrie/api"
)

// TestSpace: P13.1.
func TestSpace(t *testing.T) {
	for _, c := range []struct {
		s        string
		at, want int
	}{
		{"", 0, 0}, {"a", 0, 0}, {" a", 0, 1}, {" \t \ta", 0, 4}, {"  ", 0, 2}, {"a  b", 1, 3}, {"a  b", 3, 3}, {"a  b", 4, 4},
		{"\n", 0, 0}, {" \n ", 0, 1}, {"\\\na", 0, 2}, {" \\\n \\\n\\\n\ta", 0, 9}, {"\\\n", 0, 2}, {"\\", 0, 0}, {"\\ ", 0, 0}, {" \\a", 0, 1}, {"\\\\\n", 0, 0}, {"\\\r\n", 0, 0},
		{"#", 0, 1}, {"# a b", 0, 5}, {"#a\nb", 0, 2}, {" # a\n#b\n", 0, 4}, {" # a\n#b\n", 5, 7}, {"#a\\\nb", 0, 3}, {"# 'a\n'", 0, 4}, {"## #\n", 0, 4}, {"\\\n#a", 0, 4}, {"a#", 0, 0}, {"a #b", 1, 4}, {"#\x00\xff\r\n", 0, 4},
		{"\r", 0, 0}, {"\v", 0, 0}, {"\f", 0, 0}, {"\x00", 0, 0}, {"\u00a0", 0, 0}, {";", 0, 0}, {"'", 0, 0},
		{"  a", -1, 2}, {"  a", math.MinInt, 2}, {"a  ", 4, 3}, {"a  ", math.MaxInt, 3}, {"", -3, 0}, {"", 3, 0},
	} {
		if got := Space(c.s, c.at); got != c.want {
			t.Errorf("P13.1: Space(%q, %d): %d, want %d", c.s, c.at, got, c.want)
		}
	}
}

// TestOperator: P13.1, all there are, each with each octet behind, and what is none.
func TestOperator(t *testing.T) {
	for _, op := range strings.Split("\n ; ;; && || | ( ) < > >> >& << <<< &>", " ") {
		sh := map[string]string{"<<<": "<<", "&>": ""}
		want := op
		if other, ok := sh[op]; ok {
			want = other
		}
		for _, s := range []string{op, op + "a", op + " ", op + "\n"} {
			if got := Operator(s, 0, false); got != want {
				t.Errorf("P13.1: Operator(%q, 0, false): %q, want %q", s, got, want)
			}
			if got := Operator(s, 0, true); got != op {
				t.Errorf("P13.1: Operator(%q, 0, true): %q, want %q", s, got, op)
			}
		}
	}
	for _, c := range []struct {
		s        string
		at       int
		sh, bash string
	}{
		{"", 0, "", ""}, {"a", 0, "", ""}, {" ;", 0, "", ""}, {" ;", 1, ";", ";"}, {"&", 0, "", ""}, {"& &", 0, "", ""}, {"&a", 0, "", ""}, {"!", 0, "", ""}, {"{", 0, "", ""}, {"}", 0, "", ""}, {"\\;", 0, "", ""}, {"';'", 0, "", ""}, {"$(", 0, "", ""}, {"#", 0, "", ""}, {"\t", 0, "", ""}, {"\r\n", 0, "", ""},
		{";;;", 0, ";;", ";;"}, {";&", 0, ";", ";"}, {"&&&", 0, "&&", "&&"}, {"|||", 0, "||", "||"}, {"|&", 0, "|", "|"}, {">>>", 0, ">>", ">>"}, {">>&", 0, ">>", ">>"}, {">|", 0, ">", ">"}, {"<&", 0, "<", "<"}, {"<>", 0, "<", "<"}, {"<<<<", 0, "<<", "<<<"}, {"<<-", 0, "<<", "<<"}, {"&>>", 0, "", "&>"}, {">&>", 0, ">&", ">&"},
		{"((", 0, "(", "("}, {"))", 0, ")", ")"}, {"<(", 0, "<", "<"}, {"\n\n", 0, "\n", "\n"}, {"a;;", 2, ";", ";"},
		{";", -1, ";", ";"}, {";", math.MinInt, ";", ";"}, {";", 1, "", ""}, {";", math.MaxInt, "", ""},
	} {
		if got := Operator(c.s, c.at, false); got != c.sh {
			t.Errorf("P13.1: Operator(%q, %d, false): %q, want %q", c.s, c.at, got, c.sh)
		}
		if got := Operator(c.s, c.at, true); got != c.bash {
			t.Errorf("P13.1: Operator(%q, %d, true): %q, want %q", c.s, c.at, got, c.bash)
		}
	}
}

// reads asks for a word by its shape, and where it ends.
func reads(t *testing.T, s string, at int, bash bool, want string, end int) {
	t.Helper()
	if got, all := told(Word(s, at, bash)), fmt.Sprintf("%s; %d; %d", want, end, api.OK); got != all {
		t.Errorf("P13.1: Word(%.60q, %d, %t): %.300s, want %.300s", s, at, bash, got, all)
	}
}

// refuses asks for a fault, its place, and nothing beside it.
func refuses(t *testing.T, s string, at int, bash bool, place int, e api.Errno) {
	t.Helper()
	if got, all := told(Word(s, at, bash)), fmt.Sprintf("; %d; %d", place, e); got != all {
		t.Errorf("P13.1: Word(%.60q, %d, %t): %.300s, want %s", s, at, bash, got, all)
	}
}

// row is a word that goes on up to the end of its text, and what each dialect makes of it: !3 is ErrSyntax at 3, ? ErrShort at the text's end; bash is as sh where it is empty.
type row struct{ s, sh, bash string }

// ask asks for all rows, by themselves and within a longer text.
func ask(t *testing.T, rows []row) {
	t.Helper()
	for _, c := range rows {
		asked(t, c.s, false, c.sh)
		if c.bash == "" {
			c.bash = c.sh
		}
		asked(t, c.s, true, c.bash)
	}
}

func asked(t *testing.T, s string, bash bool, want string) {
	t.Helper()
	const ahead = "' ("
	var place int
	if want == "?" {
		refuses(t, s, 0, bash, len(s), api.ErrShort)
		refuses(t, ahead+s, len(ahead), bash, len(ahead+s), api.ErrShort)
		return
	}
	if _, err := fmt.Sscanf(want, "!%d", &place); err == nil {
		refuses(t, s, 0, bash, place, api.ErrSyntax)
		refuses(t, ahead+s+";'", len(ahead), bash, len(ahead)+place, api.ErrSyntax)
		return
	}
	reads(t, s, 0, bash, want, len(s))
	if !strings.ContainsAny(want, "lLf") { // what tells a place is asked for elsewhere
		reads(t, ahead+s+";'", len(ahead), bash, want, len(ahead+s))
	}
}

// TestWordEnds: P13.1, what ends a word, what doesn't, and no word at all.
func TestWordEnds(t *testing.T) {
	for c := range 256 {
		o := string([]byte{byte(c)})
		for _, bash := range []bool{false, true} {
			switch {
			case strings.Contains(" \t\n;&|<>()", o):
				reads(t, "a"+o+"b", 0, bash, `t"a"`, 1)
				reads(t, o+"b", 0, bash, "", 0)
				reads(t, "b"+o+"a", 1, bash, "", 1)
				reads(t, "'"+o+"'", 0, bash, fmt.Sprintf("T%q", o), 3)
				reads(t, `"`+o+`"`, 0, bash, fmt.Sprintf("T%q", o), 3)
				reads(t, "${a-"+o+"}", 0, bash, fmt.Sprintf("pa - <t%q>", o), 6)
			case strings.Contains("$'\"\\", o):
			case o == "`":
				refuses(t, "a"+o, 0, bash, 1, api.ErrSyntax)
				refuses(t, `a"`+o+`"`, 0, bash, 2, api.ErrSyntax)
				refuses(t, "${a-"+o+"}", 0, bash, 4, api.ErrSyntax)
				refuses(t, `"${a-`+o+`}"`, 0, bash, 5, api.ErrSyntax)
			default:
				reads(t, o+"a"+o, 0, bash, fmt.Sprintf("t%q", o+"a"+o), 3)
				reads(t, `"`+o+`"`, 0, bash, fmt.Sprintf("T%q", o), 3)
			}
			if o != "\n" {
				reads(t, `\`+o, 0, bash, fmt.Sprintf("T%q", o), 2)
			}
			if o != "'" {
				reads(t, "'"+o+"'", 0, bash, fmt.Sprintf("T%q", o), 3)
			}
			if !strings.Contains("$\"\\`\n", o) {
				reads(t, `"\`+o+`"`, 0, bash, fmt.Sprintf("T%q", `\`+o), 4)
			}
		}
	}
	for _, bash := range []bool{false, true} {
		reads(t, "", 0, bash, "", 0)
		reads(t, "ab", 2, bash, "", 2)
		reads(t, "ab", 1, bash, `t"b"`, 2)
		reads(t, "ab", -1, bash, `t"ab"`, 2)
		reads(t, "ab", math.MinInt, bash, `t"ab"`, 2)
		reads(t, "ab", 3, bash, "", 2)
		reads(t, "ab", math.MaxInt, bash, "", 2)
		reads(t, "a<(b)", 0, false, `t"a"`, 1)
		reads(t, "a<b", 0, bash, `t"a"`, 1)
		reads(t, "a>(b)", 0, bash, `t"a"`, 1)
	}
}

// TestTexts: P13.1, Kind 1.
func TestTexts(t *testing.T) {
	ask(t, []row{
		{"abc", `t"abc"`, ""}, {"a=b{c,d}[e]*?~!#:/", `t"a=b{c,d}[e]*?~!#:/"`, ""}, {"}", `t"}"`, ""}, {"#a", `t"#a"`, ""}, {"\x00\xff", `t"\x00\xff"`, ""},
		{"''", `T""`, ""}, {"'a b'", `T"a b"`, ""}, {`'"\$x'`, `T"\"\\$x"`, ""}, {"'a\nb'", `T"a\nb"`, ""}, {"''''", `T""`, ""}, {"'a''b'", `T"ab"`, ""}, {"a''", `t"a" T""`, ""}, {"''a", `T"" t"a"`, ""}, {"a'b'c", `t"a" T"b" t"c"`, ""}, {"'a'b'c'", `T"a" t"b" T"c"`, ""}, {"'`'", "T\"`\"", ""},
		{`\a`, `T"a"`, ""}, {`\\`, `T"\\"`, ""}, {`\'`, `T"'"`, ""}, {`\a\b`, `T"ab"`, ""}, {`a\b`, `t"a" T"b"`, ""}, {`\ \;`, `T" ;"`, ""}, {`\a'b'"c"`, `T"abc"`, ""}, {"\\`", "T\"`\"", ""}, {`\$x`, `T"$" t"x"`, ""},
		{"a\\\nb", `t"ab"`, ""}, {"\\\na", `t"a"`, ""}, {"a\\\n", `t"a"`, ""}, {"'a'\\\n'b'", `T"ab"`, ""}, {"\\\n", "", ""}, {"a\\\n#b", `t"a#b"`, ""}, {"\\a\\\n\\b", `T"ab"`, ""},
		{`""`, `T""`, ""}, {`"a b"`, `T"a b"`, ""}, {`"a'b"`, `T"a'b"`, ""}, {`"\$\"\\\a"`, `T"$\"\\\\a"`, ""}, {"\"\\`\"", "T\"`\"", ""}, {"\"a\\\nb\"", `T"ab"`, ""}, {"\"\\\n\"", `T""`, ""}, {`"a""b"`, `T"ab"`, ""}, {`"a"''"b"`, `T"ab"`, ""}, {`""a`, `T"" t"a"`, ""}, {`"<(a)"`, `T"<(a)"`, ""}, {"\"\x00\"", `T"\x00"`, ""},
		{"$", `T"$"`, ""}, {"a$", `t"a" T"$"`, ""}, {"$a$", `pa T"$"`, ""}, {"$$", `T"$$"`, ""}, {"$$a", `T"$" pa`, ""}, {"$.a", `T"$" t".a"`, ""}, {"$-", `T"$" t"-"`, ""}, {"$!", `T"$" t"!"`, ""}, {"$%", `T"$" t"%"`, ""}, {"$[1]", `T"$" t"[1]"`, ""}, {`$\a`, `T"$a"`, ""}, {"$}", `T"$" t"}"`, ""}, {`"$"`, `T"$"`, ""}, {`"a$"`, `T"a$"`, ""}, {`"$."`, `T"$."`, ""}, {"'$a'", `T"$a"`, ""}, {`$"a"`, `T"$a"`, ""}, {`$""`, `T"$"`, ""}, {"$\\\na", `T"$" t"a"`, ""}, {"$\xc3", `T"$" t"\xc3"`, ""},
		{"$'a'", `T"$a"`, `E"a"`}, {"$''", `T"$"`, `E""`}, {`$'a\\'`, `T"$a\\\\"`, `E"a\\"`}, {`$'\n\x41\101'`, `T"$\\n\\x41\\101"`, `E"\nAA"`}, {"$'a'$'b'", `T"$a$b"`, `E"a" E"b"`}, {"'a'$'b'\"c\"", `T"a$bc"`, `T"a" E"b" T"c"`}, {"$'a'b", `T"$a" t"b"`, `E"a" t"b"`}, {`"$'a'"`, `T"$'a'"`, ""}, {"$'a'''", `T"$a"`, `E"a" T""`}, {"$'a b;'", `T"$a b;"`, `E"a b;"`}, {"$'a\nb'", `T"$a\nb"`, `E"a\nb"`}, {"$$'a'", `T"$$a"`, `T"$" E"a"`},
		{"'", "?", ""}, {"'a", "?", ""}, {"a'b'c'", "?", ""}, {`"`, "?", ""}, {`"a`, "?", ""}, {`"a\"`, "?", ""}, {`"a\`, "?", ""}, {`\`, "?", ""}, {`a\`, "?", ""}, {"$'", "?", ""}, {`$'a\`, "?", ""}, {`$'\q`, "?", ""},
		{"`", "!0", ""}, {"a`b`", "!1", ""}, {"\"`\"", "!1", ""}, {"\"a`", "!2", ""}, {"'a'`", "!3", ""}, {"${a-`}", "!4", ""},
		{`$'\q'`, `T"$\\q"`, "!2"}, {`$'ab\0'`, `T"$ab\\0"`, "!4"}, {`a$'\x'`, `t"a" T"$\\x"`, "!3"}, {`$'\777'`, `T"$\\777"`, "!2"},
	})
	reads(t, `$'\''`, 0, true, `E"'"`, 5)
	reads(t, `$'\'a';`, 0, true, `E"'a"`, 6)
	refuses(t, `$'\''`, 0, false, 5, api.ErrShort)
	refuses(t, `$'a\'`, 0, true, 5, api.ErrShort)
	reads(t, `$'a\'`, 0, false, `T"$a\\"`, 5)
	refuses(t, "$'a\x00'", 0, true, 3, api.ErrText)
}

// TestParameters: P13.1, Kind 2, what is named and what it takes.
func TestParameters(t *testing.T) {
	ask(t, []row{
		{"$a", "pa", ""}, {"$_", "p_", ""}, {"$a_1B", "pa_1B", ""}, {"$1", "p1", ""}, {"$12", `p1 t"2"`, ""}, {"$0", "p0", ""}, {"$1a", `p1 t"a"`, ""}, {"$@", "p@", ""}, {"$*", "p*", ""}, {"$#", "p#", ""}, {"$?", "p?", ""}, {"$?a", `p? t"a"`, ""}, {"$a$b", "pa pb", ""}, {"$a.b", `pa t".b"`, ""}, {"$a=b", `pa t"=b"`, ""}, {"$#a", `p# t"a"`, ""}, {"$a{b}", `pa t"{b}"`, ""}, {"$aé", `pa t"é"`, ""}, {"$a[1]", `pa t"[1]"`, ""},
		{`"$a"`, "Pa", ""}, {`"$@"`, "P@", ""}, {`a"$b"`, `t"a" Pb`, ""}, {`"a$b"`, `T"a" Pb`, ""}, {`"$a b"`, `Pa T" b"`, ""}, {`""$a""`, `T"" pa T""`, ""}, {`"$a""$b"`, "Pa Pb", ""}, {`'a'"$b"'c'`, `T"a" Pb T"c"`, ""}, {`$a"$a"`, "pa Pa", ""},
		{"${a}", "pa", ""}, {"${a}b", `pa t"b"`, ""}, {"${12}", "p12", ""}, {"${007}", "p007", ""}, {"${0}", "p0", ""}, {"${@}", "p@", ""}, {"${*}", "p*", ""}, {"${#}", "p#", ""}, {"${?}", "p?", ""}, {`"${a}"`, "Pa", ""}, {"${_}", "p_", ""},
		{"${#a}", "pa len ", ""}, {"${#1}", "p1 len ", ""}, {"${#12}", "p12 len ", ""}, {"${#@}", "p@ len ", ""}, {"${#*}", "p* len ", ""}, {"${##}", "p# len ", ""}, {"${#?}", "p? len ", ""}, {`"${#a}"`, "Pa len ", ""}, {"${#if}", "pif len ", ""},
		{"${#-a}", `p# - <t"a">`, ""}, {"${#:-a}", `p# :- <t"a">`, ""}, {"${#+}", "p# + ", ""}, {"${#=a}", `p# = <t"a">`, ""}, {"${#?a}", `p# ? <t"a">`, ""}, {"${#??}", `p# ? <t"?">`, ""}, {"${##a}", `p# # <t"a">`, ""}, {"${###}", "p# ## ", ""}, {"${###a}", `p# ## <t"a">`, ""}, {"${##?}", `p# # <t"?">`, ""}, {"${#%}", "p# % ", ""}, {"${#%%a}", `p# %% <t"a">`, ""}, {"${#?", "?", ""}, {"${##", "?", ""}, {"${#", "?", ""},
		{"${", "?", ""}, {"${a", "?", ""}, {"${1", "?", ""}, {"${@", "?", ""}, {"${#a", "?", ""}, {"a${", "?", ""}, {`"${a`, "?", ""}, {`"${a}`, "?", ""}, {"${a:", "?", ""}, {"${#:", "?", ""},
		{"${}", "!2", ""}, {"${ a}", "!2", ""}, {"${a }", "!3", ""}, {"${-}", "!2", ""}, {"${!}", "!2", ""}, {"${$}", "!2", ""}, {"${!a}", "!2", ""}, {"${1a}", "!3", ""}, {"${@a}", "!3", ""}, {"${a.}", "!3", ""}, {"${a!b}", "!3", ""}, {"${a;}", "!3", ""}, {"${a\n}", "!3", ""}, {`${"a"}`, "!2", ""}, {`${a"}"}`, "!3", ""}, {"${'a'}", "!2", ""}, {"${\\\na}", "!2", ""}, {"${é}", "!2", ""}, {"${a{}", "!3", ""}, {"${:-a}", "!2", ""}, {"${=}", "!2", ""}, {"${a&}", "!3", ""}, {"${aé}", "!3", ""}, {"${\x00}", "!2", ""}, {"${$a}", "!2", ""}, {"${{a}}", "!2", ""},
		{"${#a-b}", "!4", ""}, {"${#a:-b}", "!4", ""}, {"${#a#}", "!4", ""}, {"${#1a}", "!4", ""}, {"${#@a}", "!4", ""}, {"${#*-a}", "!4", ""}, {"${#!}", "!3", ""}, {"${#.}", "!3", ""}, {"${# }", "!3", ""}, {"${#a ", "!4", ""}, {"${#}a}", `p# t"a}"`, ""}, {"${#$}", "!3", ""}, {"${#a:", "!4", ""}, {"${#a:}", "!4", ""},
		{"${a:}", "!3", "pa : {0}"}, {"${a:b}", "!3", "pa : {b}"}, {"${a:~}", "!3", "!5"},
	})
	// One whose name is as long as may be, and one more.
	n := strings.Repeat("n", api.MaxName)
	d := strings.Repeat("7", 2*api.MaxName)
	for _, bash := range []bool{false, true} {
		reads(t, "$"+n, 0, bash, "p"+n, 65)
		reads(t, "${"+n+"}", 0, bash, "p"+n, 67)
		reads(t, "${#"+n+"}", 0, bash, "p"+n+" len ", 68)
		reads(t, `"$`+n+`"`, 0, bash, "P"+n, 67)
		refuses(t, "a$"+n+"n", 0, bash, 2, api.ErrLong)
		refuses(t, "$"+n+"1", 0, bash, 1, api.ErrLong)
		refuses(t, "a${"+n+"_}", 0, bash, 3, api.ErrLong)
		refuses(t, "a${#"+n+"_}", 0, bash, 4, api.ErrLong)
		refuses(t, "${"+n+"_", 0, bash, 2, api.ErrLong)
		reads(t, "${"+d+"}", 0, bash, "p"+d, len(d)+3)
		reads(t, "${#"+d+"}", 0, bash, "p"+d+" len ", len(d)+4)
		reads(t, "$"+d, 0, bash, `p7 t"`+d[1:]+`"`, len(d)+1)
	}
}

// TestOps: P13.1, the Ops that both dialects have, and the words behind them.
func TestOps(t *testing.T) {
	for _, name := range []string{"a", "_b1", "1", "10", "@", "*", "#", "?"} {
		for _, op := range strings.Fields(":- - := = :? ? :+ + # ## % %%") {
			pattern := strings.ContainsAny(op, "#%")
			for _, c := range []struct{ word, free, quoted string }{
				{"", "", ""}, {"a", `<t"a">`, `<T"a">`}, {"a b", `<t"a b">`, `<T"a b">`}, {" \t\n;&|<>()", `<t" \t\n;&|<>()">`, `<T" \t\n;&|<>()">`}, {"{a", `<t"{a">`, `<T"{a">`}, {"a/b", `<t"a/b">`, `<T"a/b">`}, {"'b'", `<T"b">`, `<T"'b'">`}, {"a'b'", `<t"a" T"b">`, `<T"a'b'">`}, {"$a$", `<pa T"$">`, `<Pa T"$">`},
				{"${b}", "<pb>", "<Pb>"}, {"${b-c d}", `<pb - <t"c d">>`, `<Pb - <T"c d">>`}, {"${b#'c'}", `<pb # <T"c">>`, `<Pb # <T"c">>`}, {"$((1))", "<s{1}>", "<S{1}>"}, {`\a`, `<T"a">`, `<T"\\a">`}, {`\$\\`, `<T"$\\">`, `<T"$\\">`}, {"a\\\nb", `<t"ab">`, `<T"ab">`}, {`\"`, `<T"\"">`, `<T"\"">`}, {"~!#", `<t"~!#">`, `<T"~!#">`},
			} {
				if name == "#" && (op == "#" || op == "##" || op == "?") {
					continue // asked for by itself
				}
				s := "${" + name + op + c.word + "}"
				quoted := c.quoted
				if pattern {
					quoted = c.free
				}
				asked(t, s+"b", false, "p"+name+" "+op+" "+c.free+` t"b"`)
				asked(t, s+"b", true, "p"+name+" "+op+" "+c.free+` t"b"`)
				asked(t, `"`+s+`b"`, false, "P"+name+" "+op+" "+quoted+` T"b"`)
				asked(t, `"`+s+`b"`, true, "P"+name+" "+op+" "+quoted+` T"b"`)
			}
		}
	}
	ask(t, []row{
		{"${a-}", "pa - ", ""}, {`${a-""}`, `pa - <T"">`, ""}, {`${a-"}"}`, `pa - <T"}">`, ""}, {"${a-'}'}", `pa - <T"}">`, ""}, {`${a-\}}`, `pa - <T"}">`, ""}, {"${a-{}}", `pa - <t"{"> t"}"`, ""}, {`${a-"b $c"d}`, `pa - <T"b " Pc t"d">`, ""}, {`"${a-\}}"`, `Pa - <T"\\"> T"}"`, ""}, {`"${a-'}'}"`, `Pa - <T"'"> T"'}"`, ""}, {`"${a#'}'}"`, `Pa # <T"}">`, ""}, {`"${a#"b"}"`, `Pa # <T"b">`, ""}, {`"${a%"$b"c}"`, `Pa % <Pb t"c">`, ""}, {`"${a##${b-"c d"}}"`, `Pa ## <pb - <T"c d">>`, ""}, {`"${a%%${b-c d}}"`, `Pa %% <pb - <t"c d">>`, ""}, {`${a-"${b-'c'}"}`, `pa - <Pb - <T"'c'">>`, ""}, {`"${a-${b%"c"}}"`, `Pa - <Pb % <T"c">>`, ""},
		{`"${a-"b"}"`, "!5", ""}, {`"${a-b"c}"`, "!6", ""}, {`"${a-b"`, "!6", ""}, {`"${a:?"}`, "!6", ""}, {`"${a-${b-"}}"`, "!9", ""}, {`"${a-\"b\"}"`, `Pa - <T"\"b\"">`, ""},
		{"${a-b", "?", ""}, {"${a-'}", "?", ""}, {`${a-"}`, "?", ""}, {`${a-\}`, "?", ""}, {`${a-\`, "?", ""}, {`"${a-b}`, "?", ""}, {`"${a#"}`, "?", ""}, {`"${a#}`, "?", ""}, {"${a:-${b}", "?", ""}, {`"${a-\`, "?", ""}, {"${a#b", "?", ""},
		{"${a###}", `pa ## <t"#">`, ""}, {"${a%%%}", `pa %% <t"%">`, ""}, {"${a:--}", `pa :- <t"-">`, ""}, {"${a--}", `pa - <t"-">`, ""}, {"${a-:-b}", `pa - <t":-b">`, ""}, {"${a::-b}", "!3", "pa : {0}{(neg b)}"}, {"${a:%b}", "!3", "!4"}, {"${a:#b}", "!3", "!4"},
	})
}

// TestBashOps: P13.1, the Ops that bash alone has.
func TestBashOps(t *testing.T) {
	ask(t, []row{
		{"${a:1}", "!3", "pa : {1}"}, {"${a:1:2}", "!3", "pa : {1}{2}"}, {"${a: -1}", "!3", "pa : {(neg 1)}"}, {"${a:(-1):b+1}", "!3", "pa : {(neg 1)}{(+ b 1)}"}, {"${a:}", "!3", "pa : {0}"}, {"${a::}", "!3", "pa : {0}{0}"}, {"${a::2}", "!3", "pa : {0}{2}"}, {"${a:1:}", "!3", "pa : {1}{0}"}, {"${@:1:2}", "!3", "p@ : {1}{2}"}, {"${#:1}", "!3", "p# : {1}"}, {"${1:1}", "!3", "p1 : {1}"}, {`"${a:1}"`, "!4", "Pa : {1}"}, {"${a: $b : $c }", "!3", "pa : {b}{c}"}, {"${a:x=1,2:3}", "!3", "pa : {(, (= x 1) 2)}{3}"}, {"${a:1\n:2}", "!3", "pa : {1}{2}"}, {"${a:b++}", "!3", "pa : {(post++ b)}"},
		{"${a:b?c:d}", "!3", "pa : {(?: b c d)}"}, {"${a:b?c:d:e}", "!3", "pa : {(?: b c d)}{e}"}, {"${a:b:c?d:e}", "!3", "pa : {b}{(?: c d e)}"}, {"${a:b?c?d:e:f:g}", "!3", "pa : {(?: b (?: c d e) f)}{g}"}, {"${a:(b?c:d):e}", "!3", "pa : {(?: b c d)}{e}"}, {"${a:b?(c):d?e:f:g?h:i}", "!3", "pa : {(?: b c (?: d e f))}{(?: g h i)}"},
		{"${a:1", "!3", "?"}, {"${a:1:2", "!3", "?"}, {"${a:1:2:3}", "!3", "!7"}, {"${a:b?c}", "!3", "!7"}, {"${a:(1}", "!3", "!6"}, {"${a:(1:2)}", "!3", "!6"}, {"${a:1)}", "!3", "!5"}, {"${a:1):2}", "!3", "!5"}, {"${a:1 2}", "!3", "!6"}, {"${a:1:2 3}", "!3", "!8"}, {"${a:*}", "!3", "!4"}, {"${a:${b}}", "!3", "!4"}, {"${a:'1'}", "!3", "!4"}, {`${a:"}"}`, "!3", "!4"}, {`"${a:1"}"`, "!4", "!6"}, {"${a:1:*}", "!3", "!6"}, {"${a:1+:2}", "!3", "!6"}, {"${a:1\\\n}", "!3", "!5"}, {"${a:$1}", "!3", "!4"}, {"${a:09}", "!3", "!4"},
		{"${a[1]}", "!3", "pa [] {1}"}, {"${a[b+1]}", "!3", "pa [] {(+ b 1)}"}, {"${a[]}", "!3", "pa [] {0}"}, {"${a[ 1 ]}", "!3", "pa [] {1}"}, {"${a[b?c:d]}", "!3", "pa [] {(?: b c d)}"}, {`"${a[$b]}"`, "!4", "Pa [] {b}"}, {"${1[2]}", "!3", "p1 [] {2}"}, {"${@[2]}", "!3", "p@ [] {2}"}, {"${a[-1]}", "!3", "pa [] {(neg 1)}"},
		{"${a[@]}", "!3", "pa [@] "}, {"${a[*]}", "!3", "pa [*] "}, {`"${a[@]}"`, "!4", "Pa [@] "}, {"${#a[@]}", "!4", "pa len[@] "}, {`"${#a[@]}"`, "!5", "Pa len[@] "}, {"${1[@]}", "!3", "p1 [@] "}, {"${@[@]}", "!3", "p@ [@] "},
		{"${#a[*]}", "!4", ""}, {"${#a[0]}", "!4", ""}, {"${#1[@]}", "!4", ""}, {"${#@[@]}", "!4", ""}, {"${#a[@]-b}", "!4", "!7"}, {"${#a[@] }", "!4", "!7"}, {"${#a[ @]}", "!4", ""},
		{"${a[ @ ]}", "!3", "!5"}, {"${a[@ ]}", "!3", "!4"}, {"${a[1]-b}", "!3", "!6"}, {"${a[1]]}", "!3", "!6"}, {"${a[@]:1}", "!3", "!6"}, {"${a[@]#b}", "!3", "!6"}, {"${a[b[1]]}", "!3", "!5"}, {"${a[1}]}", "!3", "!5"}, {"${a['1']}", "!3", "!4"}, {"${a[${b}]}", "!3", "!4"}, {"${a[1 2]}", "!3", "!6"}, {"${a[@]@}", "!3", "!6"},
		{"${a/b}", "!3", `pa / <t"b">`}, {"${a/b/c}", "!3", `pa / <t"b"><<t"c">>`}, {"${a//b/c}", "!3", `pa // <t"b"><<t"c">>`}, {"${a/b/c/d}", "!3", `pa / <t"b"><<t"c/d">>`}, {"${a/b/}", "!3", `pa / <t"b">`}, {"${a/}", "!3", "pa / "}, {"${a//}", "!3", "pa // "}, {"${a///}", "!3", "pa // "}, {"${a///b}", "!3", `pa // <<t"b">>`}, {"${a/ b c/ d }", "!3", `pa / <t" b c"><<t" d ">>`}, {"${a/;(/|)}", "!3", `pa / <t";("><<t"|)">>`}, {`${a/\//\/}`, "!3", `pa / <T"/"><<T"/">>`}, {"${a/'/'b/'}'}", "!3", `pa / <T"/" t"b"><<T"}">>`}, {`${a/"/$b"/"}"}`, "!3", `pa / <T"/" Pb><<T"}">>`}, {"${a/$b/$c}", "!3", "pa / <pb><<pc>>"}, {"${a/${b/c/d}/e}", "!3", `pa / <pb / <t"c"><<t"d">>><<t"e">>`}, {"${@/a/b}", "!3", `p@ / <t"a"><<t"b">>`}, {"${#/a/b}", "!3", `p# / <t"a"><<t"b">>`}, {"${a/#b/c}", "!3", `pa / <t"#b"><<t"c">>`},
		{`"${a/b c/d 'e'}"`, "!4", `Pa / <t"b c"><<T"d 'e'">>`}, {`"${a//'/'/\a}"`, "!4", `Pa // <T"/"><<T"\\a">>`}, {`"${a/"b"/$c}"`, "!4", `Pa / <T"b"><<Pc>>`}, {`"${a/b/"c"}"`, "!4", "!7"}, {`"${a/b/"`, "!4", "!7"}, {`"${a/"`, "!4", "?"}, {`"${a/${b-"c"}/${d-'e'}}"`, "!4", `Pa / <pb - <T"c">><<Pd - <T"'e'">>>`}, {"${a/b/`}", "!3", "!6"}, {"${a/`}", "!3", "!4"},
		{"${a^}", "!3", "pa ^ "}, {"${a^^}", "!3", "pa ^^ "}, {"${a,}", "!3", "pa , "}, {"${a,,}", "!3", "pa ,, "}, {`"${a^}"`, "!4", "Pa ^ "}, {"${@^^}", "!3", "p@ ^^ "}, {"${#^}", "!3", "p# ^ "}, {"${a^b}", "!3", "!4"}, {"${a^^^}", "!3", "!5"}, {"${a,^}", "!3", "!4"}, {"${a,,,}", "!3", "!5"}, {"${a^ }", "!3", "!4"}, {"${a^^?}", "!3", "!5"}, {"${a@}", "!3", ""}, {"${a~}", "!3", ""}, {"${a@Q}", "!3", ""},
	})
	for _, s := range []string{"${a:1", "${a[", "${a[1", "${a[1]", "${a[@", "${a[@]", "${#a[", "${#a[@", "${#a[@]", "${a/", "${a/b", "${a/b/", "${a//b/c", "${a^", "${a^^", "${a,", `"${a/'}'`, "${a/'", "${a:b?c:d"} {
		refuses(t, s, 0, true, len(s), api.ErrShort)
	}
}

// TestSums: P13.1, Kind 4.
func TestSums(t *testing.T) {
	ask(t, []row{
		{"$((1))", "s{1}", ""}, {"$(())", "s{0}", ""}, {"$(( ))", "s{0}", ""}, {"$((1+2*x))", "s{(+ 1 (* 2 x))}", ""}, {"$(( $x ))", "s{x}", ""}, {"$((1+(2)))", "s{(+ 1 2)}", ""}, {"$(((1)+2))", "s{(+ 1 2)}", ""}, {"$((((1))))", "s{1}", ""}, {"$((\n1\n))", "s{1}", ""}, {`"$((1))"`, "S{1}", ""}, {`a"$((1))b"`, `t"a" S{1} T"b"`, ""}, {"$((1))$((2))", "s{1} s{2}", ""}, {"$((a<<b|c&&d))", "s{(&& (| (<< a b) c) d)}", ""}, {"$((a=1,b?c:d))", "s{(, (= a 1) (?: b c d))}", ""},
		{"$((2**3))", "!5", "s{(** 2 3)}"}, {"$((a++))", "!6", "s{(post++ a)}"}, {"$((--a))", "s{(neg (neg a))}", "s{(pre-- a)}"},
		{"$((1+))", "!5", ""}, {"$((1 2))", "!5", ""}, {"$((09))", "!3", ""}, {"$((${a}))", "!3", ""}, {"$((a[1]))", "!4", ""}, {`$(("1"))`, "!3", ""}, {"$((1;2))", "!4", ""}, {"$((`1`))", "!3", ""}, {"$((()))", "!4", ""}, {`"$((1"2"))"`, "!5", ""}, {"$((a # b\n))", "!5", ""},
		{"$((1) )", "!5", ""}, {"$((a) (b))", "!5", ""}, {"$((a);b)", "!5", ""}, {"$(()a)", "!4", ""},
		{"$((", "?", ""}, {"$((1", "?", ""}, {"$((1)", "?", ""}, {"$(()", "?", ""}, {"$(((1))", "?", ""}, {"$((1 '))", "?", ""}, {`"$((1))`, "?", ""}, {`$((1\))`, "?", ""},
	})
	deep := strings.Repeat("-", api.MaxDeep)
	for _, bash := range []bool{false, true} {
		refuses(t, "a$(( "+strings.ReplaceAll(deep, "-", "- ")+"1))", 0, bash, 5+2*api.MaxDeep, api.ErrDepth)
		refuses(t, "a$(("+strings.Repeat(" ", api.MaxText)+"1))", 0, bash, 4, api.ErrLong)
		reads(t, "$(("+strings.Repeat(" ", api.MaxText-1)+"1))", 0, bash, "s{1}", api.MaxText+5)
	}
	long := strings.Repeat(" ", api.MaxText-1)
	reads(t, "${a:"+long+"1:"+long+"2}", 0, true, "pa : {1}{2}", 2*api.MaxText+6)
	refuses(t, "${a:1: "+long+"2}", 0, true, 6, api.ErrLong)
	refuses(t, "${a[ "+long+"2]}", 0, true, 4, api.ErrLong)
	refuses(t, "${a["+strings.ReplaceAll(deep, "-", "! ")+"2]}", 0, true, 4+2*api.MaxDeep, api.ErrDepth)
}

// TestLists: P13.1, Kinds 3 and 5, and the places of their texts.
func TestLists(t *testing.T) {
	for _, bash := range []bool{false, true} {
		for _, c := range []struct{ s, want string }{
			{"$(a)", `l2"a"`}, {"$()", `l2""`}, {"$( a b )", `l2" a b "`}, {"$(a;b&&c|d\n#e\n)", `l2"a;b&&c|d\n#e\n"`}, {"$( (a) )", `l2" (a) "`}, {"$(a $(b) (c))", `l2"a $(b) (c)"`}, {"$(a ')' \")\" \\))", `l2"a ')' \")\" \\)"`}, {"$(a '(')", `l2"a '('"`}, {"$(')`\"$((')", `l2"')` + "`" + `\"$(('"`}, {"$(`a`)", "l2\"`a`\""},
			{`"$(a)"`, `L3"a"`}, {`"$(a "b")"`, `L3"a \"b\""`}, {`"a$(b ")")c"`, `T"a" L4"b \")\"" T"c"`}, {"a$(b)c$(d)", `t"a" l3"b" t"c" l8"d"`}, {"${a-$(b)}", `pa - <l6"b">`}, {`"${a-$(b "c")}"`, `Pa - <L7"b \"c\"">`}, {`"${a#$(b)}"`, `Pa # <l7"b">`}, {"$(\x00)", `l2"\x00"`}, {"$($((1)))", `l2"$((1))"`}, {"$( ((1)) )", `l2" ((1)) "`}, {"$(\\\n)", `l2"\\\n"`},
		} {
			reads(t, c.s, 0, bash, c.want, len(c.s))
			reads(t, c.s+")", 0, bash, c.want, len(c.s))
		}
		for _, s := range []string{"$(", "$(a", "$(a(b)", "$(a')'", `$(a")`, `$(a\)`, "a$(b)$(", `"$(a"`, `"$(a)`, `$(\`, "$(a # it's\n)", "${a-$(b}"} {
			refuses(t, s, 0, bash, len(s), api.ErrShort)
		}
		reads(t, "' $(a)", 2, bash, `l4"a"`, 6)
		reads(t, ")) \"$(a)\"", 3, bash, `L6"a"`, 9)
	}
	for _, c := range []struct{ s, want string }{
		{"<(a)", `f2"a"`}, {"<()", `f2""`}, {"a<(b c)d", `t"a" f3"b c" t"d"`}, {"<(a (b) ')' $(c))<(d)", `f2"a (b) ')' $(c)" f19"d"`}, {"${a-<(b)}", `pa - <f6"b">`}, {"${a/<(b)/<(c)}", `pa / <f6"b"><<f11"c">>`}, {`"${a#<(b)}"`, `Pa # <f7"b">`}, {`"${a-<(b)}"`, `Pa - <T"<(b)">`}, {`"<(a)"`, `T"<(a)"`}, {"'<(a)'", `T"<(a)"`}, {"<(<(a))", `f2"<(a)"`}, {"<((a))", `f2"(a)"`},
	} {
		reads(t, c.s, 0, true, c.want, len(c.s))
		reads(t, c.s+" (", 0, true, c.want, len(c.s))
	}
	for _, s := range []string{"<(", "<(a", "a<(b()", "<(a')'", "${a-<(b}"} {
		refuses(t, s, 0, true, len(s), api.ErrShort)
	}
	reads(t, "<(a)", 0, false, "", 0)
	reads(t, "${a-<(b)}", 0, false, `pa - <t"<(b)">`, 9)
	reads(t, ` \<(a)`, 1, true, `T"<"`, 3)
}

// TestDepth: P13.1, words within words, up to MaxNest and one more.
func TestDepth(t *testing.T) {
	full, over := strings.Repeat("${a-", api.MaxNest), strings.Repeat("${a-", api.MaxNest+1)
	shut := strings.Repeat("}", api.MaxNest)
	for _, bash := range []bool{false, true} {
		for _, quote := range []string{"", `"`} {
			for _, leaf := range []string{"b", "${b}", "${#b}", "$b", "$((1))"} {
				s := quote + full + leaf + shut + quote
				if w, n, e := Word(s, 0, bash); n != len(s) || e != api.OK || len(w.Parts) != 1 {
					t.Errorf("P13.1: Word(%.90q, 0, %t): %d, %d", s, bash, n, e)
				}
			}
			for _, leaf := range []string{"", "b}" + shut + quote, "`"} {
				refuses(t, quote+over+leaf, 0, bash, len(quote+over), api.ErrDepth)
				refuses(t, quote+full+"${#b#"+leaf, 0, bash, len(quote+full)+4, api.ErrSyntax)
				refuses(t, quote+full+"${b##"+leaf, 0, bash, len(quote+full)+5, api.ErrDepth)
			}
		}
		refuses(t, full, 0, bash, len(full), api.ErrShort)
		// Those beside each other don't count.
		many := strings.Repeat(full+shut, 9)
		if w, n, e := Word(many, 0, bash); n != len(many) || e != api.OK || len(w.Parts) != 9 {
			t.Error("P13.1: Word of many words beside each other:", n, e)
		}
	}
	refuses(t, full+"${b/", 0, true, len(full)+4, api.ErrDepth)
	s := strings.Repeat("${a/b/", api.MaxNest) + strings.Repeat("}", api.MaxNest)
	if _, n, e := Word(s, 0, true); n != len(s) || e != api.OK {
		t.Error("P13.1: Word of patterns within each other:", n, e)
	}
	refuses(t, strings.Repeat("${a/b/", api.MaxNest+1), 0, true, 6*api.MaxNest+4, api.ErrDepth)
}

// TestLong: P13.1, a script of MaxFile octets, and of one more: whatever begins at the place, and wherever that is.
func TestLong(t *testing.T) {
	full := strings.Repeat("a", api.MaxFile)
	for _, bash := range []bool{false, true} {
		reads(t, full, 0, bash, fmt.Sprintf("t%q", full), len(full))
		reads(t, full, len(full)-3, bash, `t"aaa"`, len(full))
		reads(t, full, len(full)+1, bash, "", len(full))
		reads(t, "'"+full[2:]+"'", 0, bash, fmt.Sprintf("T%q", full[2:]), len(full))
		for _, ahead := range []string{"", "   ", ";", "'a' ", "\"a\" ", "a ", "$a ", "${a-b} ", "$(a) ", "$((1)) ", "\\\n ", "# a\n"} {
			rest := full[len(ahead):]
			w, n, e := Word(ahead, 0, bash)
			if got, want := told(Word(ahead+rest, 0, bash)), told(w, n, e); n < len(ahead) && got != want {
				t.Errorf("P13.1: Word(%q and octets up to MaxFile, 0, %t): %.300s, want %s", ahead, bash, got, want)
			}
			refuses(t, ahead+rest+"a", 0, bash, 0, api.ErrLong)
			refuses(t, rest+"a"+ahead, len(rest)+1, bash, len(rest)+1, api.ErrLong)
			refuses(t, ahead+full+" "+full, len(ahead), bash, len(ahead), api.ErrLong)
		}
		refuses(t, full+"a", -1, bash, 0, api.ErrLong)
		refuses(t, full+"a", math.MinInt, bash, 0, api.ErrLong)
		refuses(t, full+"a", len(full), bash, len(full), api.ErrLong)
		refuses(t, full+"a", len(full)+1, bash, len(full)+1, api.ErrLong)
		refuses(t, full+"a", math.MaxInt, bash, len(full)+1, api.ErrLong)
		refuses(t, full+" ", len(full), bash, len(full), api.ErrLong)
		refuses(t, "'"+full[1:]+"'", 0, bash, 0, api.ErrLong)
		refuses(t, full+"aa`", 0, bash, len(full)+2, api.ErrSyntax)
		refuses(t, full+"aa'", 0, bash, len(full)+3, api.ErrShort)
	}
}

// TestLongFaults: P4, P13.1, of a script that is too long the faults that the chapter names ahead of ErrLong are told, those behind it are not; of a script of MaxFile octets all are.
func TestLongFaults(t *testing.T) {
	most := strings.Repeat("x", api.MaxFile)
	for _, c := range []struct {
		s     string
		place int // -1: the script's end
		e     api.Errno
		early bool
	}{
		{"`", 0, api.ErrSyntax, true}, {"a`", 1, api.ErrSyntax, true}, {"${}", 2, api.ErrSyntax, true}, {"${a b}", 3, api.ErrSyntax, true}, {"\"${a-\"", 5, api.ErrSyntax, true}, {"$((1) )", 5, api.ErrSyntax, true}, {"$'\\q'", 2, api.ErrSyntax, true},
		{"'", -1, api.ErrShort, true}, {"a\"", -1, api.ErrShort, true}, {"${a-", -1, api.ErrShort, true}, {"$(", -1, api.ErrShort, true}, {"$((1", -1, api.ErrShort, true}, {"<(", -1, api.ErrShort, true}, {"$'", -1, api.ErrShort, true}, {"${a[", -1, api.ErrShort, true},
		{"$" + most[:api.MaxName+1] + " ", 1, api.ErrLong, false}, {"${" + most[:api.MaxName+1] + "}", 2, api.ErrLong, false}, {strings.Repeat("${a-", api.MaxNest+1) + strings.Repeat("}", api.MaxNest+1), 4*api.MaxNest + 4, api.ErrDepth, false}, {"$'\x00'", 2, api.ErrText, false},
		{"$((1+))", 5, api.ErrSyntax, false}, {"\"$((09))\"", 4, api.ErrSyntax, false}, {"${a:1+}", 6, api.ErrSyntax, false}, {"${a:1:2 3}", 8, api.ErrSyntax, false}, {"${a[]]}", 5, api.ErrSyntax, true}, {"${a[1 2]}", 6, api.ErrSyntax, false}, {"${b-$((;))}", 7, api.ErrSyntax, false},
		{"$((" + strings.Repeat("- ", api.MaxDeep+1) + "1))", 3 + 2*api.MaxDeep, api.ErrDepth, false}, {"$((" + most[:api.MaxText+1] + "))", 3, api.ErrLong, false},
		{"$((1+))`", 5, api.ErrSyntax, false}, {"`$((1+))", 0, api.ErrSyntax, true}, {"`'", 0, api.ErrSyntax, true}, {"$a`" + strings.Repeat("${a-", api.MaxNest+1), 2, api.ErrSyntax, true},
	} {
		place := func(ahead int, s string) int {
			if c.place < 0 {
				return len(s)
			}
			return ahead + c.place
		}
		behind := c.s + " " + most[len(c.s)+1:]
		refuses(t, behind, 0, true, place(0, behind), c.e)
		ahead := len(most) - len(c.s)
		refuses(t, most[:ahead]+c.s, ahead, true, place(ahead, most), c.e)
		for _, at := range []int{0, ahead + 1} {
			s := behind + "x"
			if at > 0 {
				s = most[:at] + c.s
			}
			if c.early {
				refuses(t, s, at, true, place(at, s), c.e)
			} else {
				refuses(t, s, at, true, at, api.ErrLong)
			}
		}
	}
}

// TestLongOthers: P13.1, that a script is too long is told by no other call, as the chapter names it of none.
func TestLongOthers(t *testing.T) {
	full := strings.Repeat("a", api.MaxFile)
	for _, bash := range []bool{false, true} {
		for _, plain := range []bool{false, true} {
			if got, want := told(Heredoc("b\nE\n"+full, 0, "E", plain, bash)), `T"b\n"; 4; 0`; got != want {
				t.Errorf("P13.1: Heredoc in a script that is too long: %.300s, want %s", got, want)
			}
		}
		if got := Operator(full+";;", len(full), bash); got != ";;" {
			t.Errorf("P13.1: Operator in a script that is too long: %q", got)
		}
	}
	if n, e := Closed(full+")", 0); n != len(full) || e != api.OK {
		t.Error("P13.1: Closed in a script that is too long:", n, e)
	}
	if n := Space(full+"  ", len(full)); n != len(full)+2 {
		t.Error("P13.1: Space in a script that is too long:", n)
	}
}

// TestHeredoc: P13.1.
func TestHeredoc(t *testing.T) {
	for _, c := range []struct {
		s, end      string
		plain, rest string // what is told; plain is as rest where it is empty
		place       int
		e           api.Errno
	}{
		{"a\nE\n", "E", "", `T"a\n"`, 4, 0}, {"a\nb\nE\nc\nE\n", "E", "", `T"a\nb\n"`, 6, 0}, {"a\nE", "E", "", `T"a\n"`, 3, 0}, {"E\n", "E", "", `T""`, 2, 0}, {"E", "E", "", `T""`, 1, 0}, {"E\nE\n", "E", "", `T""`, 2, 0},
		{" E\nE \nEE\nE\r\ne\nE\n", "E", "", `T" E\nE \nEE\nE\r\ne\n"`, 16, 0}, {"\tE\nE\n", "E", "", `T"\tE\n"`, 5, 0}, {"a\n\nb\n", "", "", `T"a\n"`, 3, 0}, {"\n", "", "", `T""`, 1, 0}, {"\n\nE\n", "E", "", `T"\n\n"`, 4, 0}, {"a\nE F\n", "E F", "", `T"a\n"`, 6, 0}, {"a\n$E\n", "$E", "", `T"a\n"`, 5, 0},
		{"'a' #b ;<(c)\nE\n", "E", "", `T"'a' #b ;<(c)\n"`, 15, 0}, {"\"a\"\nE\n", "E", "", `T"\"a\"\n"`, 6, 0}, {"$'a' $ $.\nE\n", "E", "", `T"$'a' $ $.\n"`, 12, 0},
		{"$a\nE\n", "E", `T"$a\n"`, `Pa T"\n"`, 5, 0}, {"a${b}c\nE\n", "E", `T"a${b}c\n"`, `T"a" Pb T"c\n"`, 9, 0}, {"$(a\nb)\nE\n", "E", `T"$(a\nb)\n"`, `L2"a\nb" T"\n"`, 9, 0}, {"$((1+1))\nE\n", "E", `T"$((1+1))\n"`, `S{(+ 1 1)} T"\n"`, 11, 0}, {"${a-b 'c'}\nE\n", "E", `T"${a-b 'c'}\n"`, `Pa - <T"b 'c'"> T"\n"`, 13, 0}, {"${a#\"b\"'c'}\nE\n", "E", `T"${a#\"b\"'c'}\n"`, `Pa # <T"bc"> T"\n"`, 14, 0},
		{"\\$a\\\\b\\`\nE\n", "E", "T\"\\\\$a\\\\\\\\b\\\\`\\n\"", "T\"$a\\\\b`\\n\"", 11, 0}, {"\\\"\\a\\'\nE\n", "E", "", `T"\\\"\\a\\'\n"`, 9, 0}, {"a\\\nb\nE\n", "E", `T"a\\\nb\n"`, `T"ab\n"`, 7, 0}, {"a\\\nE\n", "E", `T"a\\\n"`, `T"a"`, 5, 0}, {"\\\nE\n", "E", `T"\\\n"`, `T""`, 4, 0}, {"\\\n$a\\\n\\\nE", "E", `T"\\\n$a\\\n\\\n"`, `Pa`, 9, 0}, {"${a-\\\"}\nE\n", "E", `T"${a-\\\"}\n"`, `Pa - <T"\""> T"\n"`, 10, 0},
		{"`\nE\n", "E", "T\"`\\n\"", "", 0, 33}, {"a`b`\nE\n", "E", "T\"a`b`\\n\"", "", 1, 33}, {"${a-\"b\"}\nE\n", "E", `T"${a-\"b\"}\n"`, "", 4, 33}, {"${}\nE\n", "E", `T"${}\n"`, "", 2, 33}, {"$((1+))\nE\n", "E", `T"$((1+))\n"`, "", 5, 33}, {"${a\nE\n}\nE\n", "E", `T"${a\n"`, "", 3, 33}, {"$(a\nE\n)\n", "E", `T"$(a\n"`, "", 4, 8}, {"${a-\nE\n}\n", "E", `T"${a-\n"`, "", 5, 8},
		{"", "E", "", "", 0, 8}, {"", "", "", "", 0, 8}, {"a", "E", "", "", 1, 8}, {"a\n", "E", "", "", 2, 8}, {"a\n", "", "", "", 2, 8}, {"aE\nE a", "E", "", "", 6, 8}, {"`\n", "E", "", "", 2, 8}, {"a\nb\n", "a\nb", "", "", 4, 8}, {"E\n", "E\n", "", "", 2, 8}, {"\\E\n", "E", "", "", 3, 8},
	} {
		for _, bash := range []bool{false, true} {
			want := fmt.Sprintf("%s; %d; %d", c.rest, c.place, c.e)
			if got := told(Heredoc(c.s, 0, c.end, false, bash)); got != want {
				t.Errorf("P13.1: Heredoc(%q, 0, %q, false, %t): %s, want %s", c.s, c.end, bash, got, want)
			}
			if c.plain != "" {
				at, _, _ := lineOf(c.s, 0, c.end)
				want = fmt.Sprintf("%s; %d; %d", c.plain, at+len(c.end)+1, api.OK)
				if at+len(c.end) == len(c.s) {
					want = fmt.Sprintf("%s; %d; %d", c.plain, len(c.s), api.OK)
				}
			}
			if got := told(Heredoc(c.s, 0, c.end, true, bash)); got != want {
				t.Errorf("P13.1: Heredoc(%q, 0, %q, true, %t): %s, want %s", c.s, c.end, bash, got, want)
			}
		}
	}
}

// TestHeredocPlaces: P13.1, from where lines are read, and the dialect's own.
func TestHeredocPlaces(t *testing.T) {
	for _, c := range []struct {
		s     string
		at    int
		plain bool
		want  string
	}{
		{"cat\na$(b)\nE\n", 4, false, `T"a" L7"b" T"\n"; 12; 0`}, {"cat\na$(b)\nE\n", 4, true, `T"a$(b)\n"; 12; 0`}, {"cat\nE\n", 2, false, `T"t\n"; 6; 0`}, {"a\nE\n", 3, false, "; 4; 8"}, {"a\nE\n", 2, false, `T""; 4; 0`}, {"a`\n`E\n", 2, false, "; 6; 8"}, {"a\n`\nE", 2, false, "; 2; 33"},
		{"a\nE\n", -1, false, `T"a\n"; 4; 0`}, {"a\nE\n", math.MinInt, true, `T"a\n"; 4; 0`}, {"a\nE\n", 5, false, "; 4; 8"}, {"a\nE\n", math.MaxInt, true, "; 4; 8"}, {"${a", 9, false, "; 3; 8"},
	} {
		if got := told(Heredoc(c.s, c.at, "E", c.plain, false)); got != c.want {
			t.Errorf("P13.1: Heredoc(%q, %d, E, %t, false): %s, want %s", c.s, c.at, c.plain, got, c.want)
		}
	}
	const s = "${a/b/c}${a[1]}$((2**3))\nE\n"
	if got, want := told(Heredoc(s, 0, "E", false, true)), `Pa / <t"b"><<T"c">> Pa [] {1} S{(** 2 3)} T"\n"; 27; 0`; got != want {
		t.Errorf("P13.1: Heredoc(%q, bash): %s, want %s", s, got, want)
	}
	if got, want := told(Heredoc(s, 0, "E", false, false)), "; 3; 33"; got != want {
		t.Errorf("P13.1: Heredoc(%q, sh): %s, want %s", s, got, want)
	}
	full := strings.Repeat("a", api.MaxFile+9) + "\n"
	if w, n, e := Heredoc(full+"E", 0, "E", false, false); Text(w) != full || n != len(full)+1 || e != api.OK {
		t.Error("P13.1: Heredoc of a long line:", n, e)
	}
}

// TestClosed: P13.1.
func TestClosed(t *testing.T) {
	for _, c := range []struct {
		s        string
		at, want int
	}{
		{")", 0, 0}, {"a b)", 0, 3}, {"a)b)", 0, 1}, {"(a))", 0, 3}, {"((a)(b))c)d", 0, 9}, {"()()())", 0, 6}, {"')')", 0, 3}, {"'(')", 0, 3}, {`")")`, 0, 3}, {`"(")`, 0, 3}, {`\))`, 0, 2}, {`\()`, 0, 2}, {`"\")")`, 0, 5}, {`'\')`, 0, 3}, {`'"')`, 0, 3}, {`"'")`, 0, 3}, {`\'\")`, 0, 4}, {`"\\")`, 0, 4}, {"\\\n)", 0, 2}, {"$(a))", 0, 4}, {"a\n)", 0, 2}, {"\x00`[{)", 0, 4}, {"''\"\")", 0, 4}, {`"a$(b ")" c)`, 0, 7}, {`$'\'')')`, 0, 7}, {"case a in a) b;; esac)", 0, 11}, {"# a)\n)", 0, 3}, {"<(a))", 0, 4},
		{"(a)", 1, 2}, {"(a)", 2, 2}, {"$(a)b)", 2, 3}, {`\))`, 1, 1}, {"')'", 1, 1}, {")", -1, 0}, {")", math.MinInt, 0},
		{"", 0, -1}, {"a", 0, -1}, {"(", 0, -1}, {"(a)", 0, -1}, {"')", 0, -1}, {`")`, 0, -1}, {`\)`, 0, -1}, {`\`, 0, -1}, {`"\`, 0, -1}, {`"\"`, 0, -1}, {"'", 0, -1}, {`"`, 0, -1}, {"(()", 0, -1}, {"# it's\n)", 0, -1}, {"a)", 2, -1}, {")", 1, -1}, {")", 2, -1}, {")", math.MaxInt, -1}, {"", -7, -1},
	} {
		want, wrong := c.want, api.OK
		if want < 0 {
			want, wrong = len(c.s), api.ErrShort
		}
		if n, e := Closed(c.s, c.at); n != want || e != wrong {
			t.Errorf("P13.1: Closed(%q, %d): %d, %d, want %d, %d", c.s, c.at, n, e, want, wrong)
		}
	}
}

// TestAsked: P13.2, of words that were read and of words that no call made.
func TestAsked(t *testing.T) {
	for _, c := range []struct {
		s, text         string
		literal, quoted bool
	}{
		{"", "", true, false}, {"abc", "abc", true, false}, {"''", "", true, true}, {`a'b'"c"\d`, "abcd", true, true}, {"$'a\\n'b", "a\nb", true, true}, {"a$b", "a", false, false}, {`a"$b"c`, "ac", false, true}, {"a$b'c'd", "acd", false, true}, {"a$(b)c", "ac", false, false}, {`"$(b)"`, "", false, true}, {"a$((1))", "a", false, false}, {"<(a)b", "b", false, false}, {"${a-'b'}", "", false, false}, {`${a-"$b"}c`, "c", false, false}, {"$", "$", true, true}, {"$a", "", false, false}, {"\\\n", "", true, false},
	} {
		w, _, e := Word(c.s, 0, true)
		text, literal := Literal(w)
		want := c.text
		if !c.literal {
			want = ""
		}
		if e != api.OK || text != want || literal != c.literal || Quoted(w) != c.quoted || Text(w) != c.text {
			t.Errorf("P13.2: %q: Literal %q, %t, Quoted %t, Text %q, want %q, %t, %t", c.s, text, literal, Quoted(w), Text(w), c.text, c.literal, c.quoted)
		}
	}
	for _, c := range []struct {
		l               []api.Part
		text            string
		literal, quoted bool
	}{
		{nil, "", true, false}, {[]api.Part{}, "", true, false}, {[]api.Part{{}}, "", false, false}, {[]api.Part{{Text: "a"}}, "", false, false}, {[]api.Part{{Kind: -1, Quoted: true}}, "", false, true}, {[]api.Part{{Kind: 6, Text: "a"}, {Kind: 1, Text: "b"}}, "b", false, false},
		{[]api.Part{{Kind: 1, Text: "a"}, {Kind: 1}, {Kind: 1, Text: "b", Op: "x", Name: "n"}}, "ab", true, false}, {[]api.Part{{Kind: 2, Text: "a", Word: []api.Part{{Kind: 1, Text: "b", Quoted: true}}}}, "", false, false}, {[]api.Part{{Kind: 3, Text: "a", Quoted: true}}, "", false, true}, {[]api.Part{{Kind: 1, Text: "a"}, {Kind: 4, Text: "b"}, {Kind: 1, Text: "c", Quoted: true}}, "ac", false, true},
	} {
		w := api.Word{Parts: c.l}
		text, literal := Literal(w)
		want := c.text
		if !c.literal {
			want = ""
		}
		if text != want || literal != c.literal || Quoted(w) != c.quoted || Text(w) != c.text {
			t.Errorf("P13.2: %s: Literal %q, %t, Quoted %t, Text %q, want %q, %t, %t", shape(c.l), text, literal, Quoted(w), Text(w), c.text, c.literal, c.quoted)
		}
	}
}
