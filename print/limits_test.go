package print

import (
	"fmt"
	"math/rand"
	"slices"
	"strings"
	"testing"

	"cowrie/api"
	"cowrie/arith"
	"cowrie/parse"
)

// TestLong: P15.1, a text has at most MaxFile octets. That there is none is told ahead of that.
func TestLong(t *testing.T) {
	for _, x := range []struct {
		what  string
		make  func(n int) api.Cmd
		extra int // how many octets there are beside
	}{
		{"a word", func(n int) api.Cmd { return call(strings.Repeat("a", n)) }, 1},
		{"a quoted word", func(n int) api.Cmd { return says(word(quote(strings.Repeat("\n", n)))) }, 3},
		{"a word in a list", func(n int) api.Cmd { return says(word(run(call(strings.Repeat("a", n))))) }, 4},
		{"a heredoc", func(n int) api.Cmd {
			return api.Cmd{Kind: simple, Redirs: []api.Redir{{Op: "<<", Word: word(quote(strings.Repeat("a", n-1) + "\n"))}}}
		}, 12},
		{"an assignment", func(n int) api.Cmd {
			return api.Cmd{Kind: simple, Assigns: []api.Assign{{Name: "a", Op: "=", Word: words(strings.Repeat("#", n))[0]}}}
		}, 3},
		{"a parameter", func(n int) api.Cmd { return says(word(param(strings.Repeat("1", n), ""))) }, 4},
	} {
		for _, bash := range []bool{false, true} {
			for n := api.MaxFile - x.extra - 2; n < api.MaxFile+3; n++ {
				s, e := Script(x.make(n), bash)
				if n+x.extra <= api.MaxFile && (e != api.OK || len(s) != n+x.extra) || n+x.extra > api.MaxFile && (e != api.ErrLong || s != "") {
					t.Errorf("P15.1: %s of %d, %v: %d octets, %d", x.what, n, bash, len(s), e)
				}
			}
			if _, ok := comesBack(t, x.make(api.MaxFile-x.extra), bash); !ok {
				t.Errorf("P15.1: %s of as many as may be, %v", x.what, bash)
			}
			bad := of(sequence, x.make(2*api.MaxFile), call("#a"))
			noText(t, x.what+" and what has no text", bad, "sb")
			noText(t, x.what+" and an octet 0", of(sequence, x.make(2*api.MaxFile), says(word(quote("\x00")))), "sb")
		}
	}
	many := slices.Repeat(words("a"), api.MaxFile/2)
	if s, ok := comesBack(t, says(many...), false); !ok || len(s) != api.MaxFile {
		t.Error("P15.1: many words:", len(s))
	}
	if s, e := Script(says(append(many, words("b")...)...), false); s != "" || e != api.ErrLong {
		t.Error("P15.1: more words:", len(s), e)
	}
}

// as asks that a command has a text just where one that is written by chance is read.
func as(t *testing.T, what string, c api.Cmd, bash bool) bool {
	t.Helper()
	r := speller{Rand: rand.New(rand.NewSource(5)), bash: bash}
	s := r.cmd(c) + r.newline()
	_, n, e := parse.Script(s, bash)
	if _, ok := comesBack(t, c, bash); ok != (e == api.OK) {
		t.Errorf("P15.1: %s, %v: %v, but parse tells %d, %d", what, bash, ok, n, e)
		return false
	}
	return e == api.OK
}

// TestNest: P15.1, commands within at most MaxNest others, and as deep and as many as may be.
func TestNest(t *testing.T) {
	a := call("a")
	for what, around := range map[string]func(c api.Cmd) api.Cmd{
		"( )":   func(c api.Cmd) api.Cmd { return of(subshell, c) },
		"{ }":   func(c api.Cmd) api.Cmd { return of(group, of(both, a, c)) },
		"if":    func(c api.Cmd) api.Cmd { return of(branch, c, a) },
		"then":  func(c api.Cmd) api.Cmd { return of(branch, a, c) },
		"else":  func(c api.Cmd) api.Cmd { return of(branch, a, a, of(sequence, a, c)) },
		"while": func(c api.Cmd) api.Cmd { return of(while, c, a) },
		"do":    func(c api.Cmd) api.Cmd { return of(until, a, of(opposite, c)) },
		"for":   func(c api.Cmd) api.Cmd { return api.Cmd{Kind: each, Name: "x", Kids: []api.Cmd{c}} },
		"case": func(c api.Cmd) api.Cmd {
			return api.Cmd{Kind: choice, Words: words("a"), Cases: []api.Case{{Pats: words("b"), Body: c}}}
		},
		"function": func(c api.Cmd) api.Cmd { return api.Cmd{Kind: function, Name: "f", Kids: []api.Cmd{of(group, c)}} },
		"$( )":     func(c api.Cmd) api.Cmd { return says(word(run(c))) },
		"\"$( )\"": func(c api.Cmd) api.Cmd { return says(word(inQuote(run(of(sequence, a, c))))) },
		"${ $( )}": func(c api.Cmd) api.Cmd { return says(word(param("x", "-", run(c)))) },
		"<( )":     func(c api.Cmd) api.Cmd { return says(word(api.Part{Kind: file, List: []api.Cmd{c}})) },
		"patterns": func(c api.Cmd) api.Cmd {
			return api.Cmd{Kind: choice, Words: words("a"), Cases: []api.Case{{Pats: []api.Word{word(run(c))}}}}
		},
		"[[ ]]": func(c api.Cmd) api.Cmd {
			return api.Cmd{Kind: question, Conds: []api.Cond{{Op: "-n", Words: []api.Word{word(run(c))}}}}
		},
		"a=( )": func(c api.Cmd) api.Cmd {
			return api.Cmd{Kind: simple, Assigns: []api.Assign{{Name: "a", Op: "=", Array: true, List: []api.Word{word(run(c))}}}}
		},
		"redirections": func(c api.Cmd) api.Cmd {
			return api.Cmd{Kind: group, Kids: []api.Cmd{a}, Redirs: []api.Redir{{Op: "<", Word: word(run(c))}}}
		},
	} {
		for _, bash := range []bool{false, true} {
			if !bash && (what == "<( )" || what == "[[ ]]" || what == "a=( )") {
				continue
			}
			c, most := a, 0
			for n := 1; n < 32; n++ {
				if c = around(c); as(t, fmt.Sprintf("%d %s", n, what), c, bash) {
					most = n
				}
			}
			if want := map[string]int{"function": api.MaxNest / 2}[what]; most != max(want, api.MaxNest) && most != want {
				t.Errorf("P15.1: %s, %v, within so many: %d", what, bash, most)
			}
		}
	}
	here := says(word(run(a)))
	for range api.MaxNest {
		here = of(group, here)
	}
	noText(t, "a list within as many as may be", here, "sb")
}

// TestDeep: P15.1, commands that are as deep, and as many, as may be, and more.
func TestDeep(t *testing.T) {
	chain, others, seq := call("a"), of(branch, call("a"), call("a")), of(sequence)
	for n := 2; n < 70; n++ {
		chain = of(both, chain, call("b"))
		if n > 2 {
			others = of(branch, call("a"), call("b"), others)
		}
		for _, bash := range []bool{false, true} {
			if _, ok := comesBack(t, chain, bash); ok != (n <= api.MaxDeep) {
				t.Errorf("P15.1: a chain, %d deep, %v: %v", n, bash, ok)
			}
			if _, ok := comesBack(t, others, bash); ok != (n <= api.MaxDeep) {
				t.Errorf("P15.1: elifs, %d deep, %v: %v", n, bash, ok)
			}
		}
	}
	for range api.MaxCmds - 2 {
		seq.Kids = append(seq.Kids, call("a"))
	}
	for n := api.MaxCmds - 1; n < api.MaxCmds+3; n++ {
		for _, bash := range []bool{false, true} {
			if _, ok := comesBack(t, seq, bash); ok != (n <= api.MaxCmds) {
				t.Errorf("P15.1: %d commands, %v: %v", n, bash, ok)
			}
		}
		seq.Kids = append(seq.Kids, call("a"))
	}
}

// TestBraces: P15.1, words in ${ } within at most MaxNest others.
func TestBraces(t *testing.T) {
	for what, around := range map[string]func(p api.Part) api.Part{
		"-":       func(p api.Part) api.Part { return param("a", "-", p) },
		"quoted":  func(p api.Part) api.Part { return inQuote(param("a", ":+", inQuote(p))) },
		"#":       func(p api.Part) api.Part { return param("a", "##", p) },
		"/":       func(p api.Part) api.Part { return param("a", "/", p) },
		"/ and /": func(p api.Part) api.Part { return api.Part{Kind: parameter, Name: "a", Op: "//", More: []api.Part{p}} },
	} {
		for inner, p := range map[string]api.Part{"none": param("b", ""), "an empty word": param("b", "-"), "an empty pattern": param("b", "%")} {
			most := 0
			for n := 1; n < 30; n++ {
				p = around(p)
				if as(t, fmt.Sprintf("%d words in braces, %s, around %s", n, what, inner), says(words("a")[0], word(p)), true) {
					most = n
				}
			}
			want := api.MaxNest
			if inner != "none" {
				want--
			}
			if most != want {
				t.Errorf("P15.1: %d words in braces, %s, around %s", most, what, inner)
			}
		}
	}
	p := param("b", "")
	for range api.MaxNest {
		p = param("a", "-", p)
	}
	p = param("c", "-", run(says(word(p))))
	if _, ok := comesBack(t, says(word(p)), false); !ok {
		t.Error("P15.1: words in braces in a list are counted anew")
	}
}

// spread: so many texts as a sum, half of them in parentheses each.
func spread(s string, n int) string {
	if n < 9 {
		return strings.Repeat(s+"+", n-1) + s
	}
	return "(" + spread(s, n/2) + ")+(" + spread(s, n-n/2) + ")"
}

// TestSums: P15.2, expressions that are read are printed, even where arith's text is too long or too deep.
func TestSums(t *testing.T) {
	row := func(s string, n int, rest string) string { return strings.Repeat(s, n) + rest }
	wide := func(s string) string { // as long as may be read
		for n := 1; ; n++ {
			if next := spread(s, n+1); len(next) > api.MaxText {
				return spread(s, n)
			}
		}
	}
	deep := "!" + row("-(a?b:", 19, "18446744073709551615") + row(")", 19, "")
	for _, x := range []struct {
		what, sum, names string
		hard             bool // can't what arith prints of it be read?
	}{
		{"a number", "5", "sb", false},
		{"numbers that are long in base 10", wide("0x7fffffffffffffff"), "sb", true},
		{"numbers below 0", wide("0x8000000000000000"), "sb", true},
		{"numbers below 0 in base 10", wide("9223372036854775808"), "sb", true},
		{"signs", wide("--a"), "s", true},
		{"signs between", wide("a--b"), "s", true},
		{"minus of minus", wide("- -a"), "b", false},
		{"a step and a minus", wide("a- --b"), "b", false},
		{"names with digits", wide("0x7fffffffffffffff-x1y--(5+1)-a_2-(5+1)*-(8223372036854775806+1)"), "s", true},
		{"names with digits, and steps", wide("0x7fffffffffffffff-x1y++-(5+1)-x1---(5+1)-a_2-(5+1)*-(8223372036854775806+1)"), "b", true},
		{"a minus of sums", wide("0x7fffffffffffffff*-(8223372036854775806+1)*-(a+1)*-(5+2)*-(5+10)*- -(8223372036854775806+1)*!-(8223372036854775806+1)**2-(1+1)"), "b", true},
		{"a deep number", deep, "sb", true},
		{"a deep number and others", deep + "-(5+1)", "sb", true},
		{"signs ahead", row("- ", 59, "1"), "sb", false},
		{"parentheses", row("1-(", 58, "1") + row(")", 58, ""), "sb", false},
	} {
		for _, bash := range dialects(x.names) {
			y, n, e := arith.Parse(x.sum, bash)
			if e != api.OK {
				t.Errorf("P15.2: %s, %v: not read: %d, %d", x.what, bash, n, e)
				continue
			}
			plain, _ := arith.Print(y)
			if z, _, e := arith.Parse(plain, bash); (e == api.OK && arith.Same(y, z)) == x.hard {
				t.Errorf("P15.2: %s, %v: arith's text of %d octets: %d", x.what, bash, len(plain), e)
			}
			c := says(words("a")[0], word(api.Part{Kind: sum, Sums: []api.Sum{y}}))
			if _, ok := comesBack(t, c, bash); !ok {
				t.Errorf("P15.2: %s, %v, is not printed", x.what, bash)
			}
			if z, _, e := arith.Parse(Sum(y), true); bash && (e != api.OK || !arith.Same(y, z)) {
				t.Errorf("P15.1: Sum of %s is not read", x.what)
			}
		}
	}
	tower := func(n int) api.Sum {
		x := api.Sum{Name: "a"}
		for range n {
			x = api.Sum{Op: "neg", Kids: []api.Sum{{Op: "?:", Kids: []api.Sum{{Name: "b"}, {Name: "c"}, x}}}}
		}
		return x
	}
	leaves := func(n int) api.Sum {
		l := []api.Sum{{Name: "a"}}
		for range n {
			l = append(l, l...)
		}
		for len(l) > 1 {
			var next []api.Sum
			for i := 0; i < len(l); i += 2 {
				next = append(next, api.Sum{Op: ",", Kids: l[i : i+2]})
			}
			l = next
		}
		return l[0]
	}
	for _, x := range []struct {
		what string
		x    api.Sum
		ok   bool
	}{{"what is just not too deep", tower(19), true}, {"what is too deep to be read", tower(20), false}, {"what is much too deep", tower(30), false}, {"what is too deep to be", tower(31), false}, {"what is not too long", leaves(12), true}, {"what is too long", leaves(13), false}} {
		for _, c := range []api.Cmd{says(words("a")[0], word(api.Part{Kind: sum, Sums: []api.Sum{x.x}})), {Kind: arithmetic, Sums: []api.Sum{x.x}}} {
			if _, ok := comesBack(t, c, true); ok != x.ok {
				t.Errorf("P15.1: a sum of %s: %v", x.what, ok)
			}
		}
		if s := Sum(x.x); (s == "") != (arith.Check(x.x) != api.OK) {
			t.Errorf("P15.1: Sum of %s: %d octets", x.what, len(s))
		}
	}
}

// TestDense: P15.2, the short texts of expressions: what is a number, what a minus of one, and what stands behind one.
func TestDense(t *testing.T) {
	for _, x := range []struct{ s, short, always, sh string }{
		{"a1+b_2", "a1+b_2", "a1+b_2", "a1+b_2"},
		{"12345678901+x0", "12345678901+x0", "12345678901+x0", "12345678901+x0"},
		{"x0+12345678901234567", "x0+0x2bdc545d6b4b87", "x0+0x2bdc545d6b4b87", "x0+0x2bdc545d6b4b87"},
		{"1152921504606846975", "0xfffffffffffffff", "0xfffffffffffffff", "0xfffffffffffffff"},
		{"-(0+1)", "-(0+1)", "0xffffffffffffffff", "-(0+1)"},
		{"-(999999999999+1)", "-(999999999999+1)", "0xffffff172b5af000", "-(999999999999+1)"},
		{"-(9999999999999+1)", "-(9999999999999+1)", "0xfffff6e7b18d6000", "-(9999999999999+1)"},
		{"-(99999999999999+1)", "0xffffa50cef85c000", "0xffffa50cef85c000", "0xffffa50cef85c000"},
		{"- -(99999999999999+1)", "- 0xffffa50cef85c000", "- 0xffffa50cef85c000", "-0xffffa50cef85c000"},
		{"!-(0+1)", "!-(0+1)", "!0xffffffffffffffff", "!-(0+1)"},
		{"a-(0+1)", "a-(0+1)", "a-(0+1)", "a-(0+1)"},
		{"1-(0+1)", "1-(0+1)", "1-(0+1)", "1-(0+1)"},
		{"-(0+1)-(0+1)", "-(0+1)-(0+1)", "0xffffffffffffffff-(0+1)", "-(0+1)-(0+1)"},
		{"(a)-(0+1)", "(a)-(0+1)", "(a)-(0+1)", "(a)-(0+1)"},
		{"a- -(0+1)", "a- -(0+1)", "a- 0xffffffffffffffff", "a--(0+1)"},
		{"a++-(0+1)", "a++-(0+1)", "a++-(0+1)", "a++-(0+1)"},
		{"a---(0+1)", "a---(0+1)", "a---(0+1)", "a---(0+1)"},
		{"++a-(0+1)", "++a-(0+1)", "++a-(0+1)", "++a-(0+1)"},
		{"a- --b+ ++c", "a- --b+ ++c", "a- --b+ ++c", "a---b+++c"},
		{"-(0+12)", "-(0+12)", "-(0+12)", "-(0+12)"},
		{"-(a+1)", "-(a+1)", "-(a+1)", "-(a+1)"},
		{"-(0-1)", "-(0-1)", "-(0-1)", "-(0-1)"},
		{"-0+1", "-0+1", "-0+1", "-0+1"},
		{"-((0+1))", "-((0+1))", "-((0+1))", "-((0+1))"},
		{"", "", "", ""},
	} {
		if got := dense(x.s, true, false); got != x.short {
			t.Errorf("P15.2: the short text of %s: %s, not %s", x.s, got, x.short)
		}
		if got := dense(x.s, true, true); got != x.always {
			t.Errorf("P15.2: the text of %s, its numbers as literals: %s, not %s", x.s, got, x.always)
		}
		if got := dense(x.s, false, false); got != x.sh {
			t.Errorf("P15.2: the short text of %s in sh: %s, not %s", x.s, got, x.sh)
		}
	}
}
