package print

import (
	"fmt"
	"reflect"
	"strings"
	"testing"

	"cowrie/api"
	"cowrie/parse"
)

// wrong is a command of which no text makes anything, in those dialects.
type wrong struct {
	what  string
	c     api.Cmd
	names string
}

func nones(t *testing.T, l []wrong) {
	t.Helper()
	for _, x := range l {
		noText(t, x.what, x.c, x.names)
	}
}

// sums: expressions that are variables.
func sums(names ...string) []api.Sum {
	var l []api.Sum
	for _, n := range names {
		l = append(l, api.Sum{Name: n})
	}
	return l
}

// TestKinds: P15.1, how many of each a command of each kind may have, and where it may stand.
func TestKinds(t *testing.T) {
	a, seq := call("a"), of(sequence, call("a"), call("b"))
	chain, pipe, not := of(both, a, a), of(pipeline, a, a), of(opposite, a)
	l := []wrong{
		{"a kind below", api.Cmd{Kind: -1}, "sb"}, {"a kind above", api.Cmd{Kind: 19}, "sb"},
		{"none with a name", api.Cmd{Name: "a"}, "sb"}, {"none with words", api.Cmd{Words: words("a")}, "sb"},
		{"no words", api.Cmd{Kind: simple}, "sb"},
		{"words and assignments", api.Cmd{Kind: simple, Words: words("a"), Assigns: []api.Assign{{Name: "b", Op: "="}}}, "sb"},
		{"words and an element", api.Cmd{Kind: simple, Words: words("a"), Assigns: []api.Assign{{Name: "b", Op: "=", Sums: sums("c")}}}, "b"},
		{"a case of no word", api.Cmd{Kind: choice}, "sb"}, {"a case of two words", api.Cmd{Kind: choice, Words: words("a", "b")}, "sb"},
		{"a case without patterns", api.Cmd{Kind: choice, Words: words("a"), Cases: []api.Case{{Body: a}}}, "sb"},
		{"a case with a body of no kind, but a name", api.Cmd{Kind: choice, Words: words("a"), Cases: []api.Case{{Pats: words("b"), Body: api.Cmd{Name: "c"}}}}, "sb"},
		{"no condition", api.Cmd{Kind: question}, "b"}, {"two conditions", api.Cmd{Kind: question, Conds: make([]api.Cond, 2)}, "b"},
		{"no sum", api.Cmd{Kind: arithmetic}, "b"}, {"two sums", api.Cmd{Kind: arithmetic, Sums: sums("a", "b")}, "b"},
		{"two sums of a loop", api.Cmd{Kind: counting, Sums: sums("a", "b"), Kids: []api.Cmd{a}}, "b"},
		{"four sums of a loop", api.Cmd{Kind: counting, Sums: sums("a", "b", "c", "d"), Kids: []api.Cmd{a}}, "b"},
		{"a loop over arguments and words", api.Cmd{Kind: each, Name: "x", Words: words("a"), Cases: make([]api.Case, 1), Kids: []api.Cmd{a}}, "sb"},
		{"a loop with a pattern", api.Cmd{Kind: each, Name: "x", Cases: []api.Case{{Pats: words("a")}}, Kids: []api.Cmd{a}}, "sb"},
		{"a loop with a case's body", api.Cmd{Kind: each, Name: "x", Cases: []api.Case{{Body: a}}, Kids: []api.Cmd{a}}, "sb"},
		{"a loop with two cases", api.Cmd{Kind: each, Name: "x", Cases: make([]api.Case, 2), Kids: []api.Cmd{a}}, "sb"},
	}
	for _, name := range []string{"", "1", "a-b", "a b", "a\x00", strings.Repeat("a", 65)} {
		l = append(l, wrong{"a loop over " + name, api.Cmd{Kind: each, Name: name, Kids: []api.Cmd{a}}, "sb"}, wrong{"a function " + name, api.Cmd{Kind: function, Name: name, Kids: []api.Cmd{of(group, a)}}, "sb"})
	}
	for kind, most := range map[int]int{none: 0, simple: 0, both: 2, either: 2, opposite: 1, subshell: 1, group: 1, branch: 3, while: 2, until: 2, each: 1, choice: 0, function: 1, question: 0, arithmetic: 0, counting: 1, local: 0} {
		good := twin(rich()[kind])
		for n := range most + 3 {
			if n == most || kind == branch && n == 2 {
				continue
			}
			c := twin(good)
			c.Kids = nil
			for range n {
				c.Kids = append(c.Kids, of(group, a))
			}
			l = append(l, wrong{fmt.Sprintf("kind %d with %d commands", kind, n), c, "sb"})
		}
	}
	for _, kind := range []int{sequence, pipeline} {
		l = append(l, wrong{"no command", of(kind), "sb"}, wrong{"one command", of(kind, a), "sb"})
	}
	for place, l2 := range map[string][]api.Cmd{"a sequence": {seq}, "a sequence or a chain": {seq, chain}, "those or not": {seq, chain, not}, "those or a pipeline": {seq, chain, not, pipe}, "none": {{}}} {
		for _, c := range l2 {
			switch place {
			case "a sequence":
				l = append(l, wrong{place + " in a chain", of(either, c, a), "sb"})
				l = append(l, wrong{place + " in a sequence", of(sequence, c, a), "sb"})
			case "a sequence or a chain":
				l = append(l, wrong{place + " at the right of a chain", of(both, a, c), "sb"}, wrong{place + " behind !", of(opposite, c), "sb"})
			case "those or not":
				l = append(l, wrong{place + " behind !", of(opposite, c), "sb"})
			case "those or a pipeline":
				l = append(l, wrong{place + " in a pipeline", of(pipeline, a, c), "sb"}, wrong{place + " first in one", of(pipeline, c, a), "sb"})
				l = append(l, wrong{place + " as a function", api.Cmd{Kind: function, Name: "f", Kids: []api.Cmd{c}}, "sb"})
			case "none":
				for _, kind := range []int{sequence, both, either, pipeline, while, until, branch} {
					l = append(l, wrong{"none first", of(kind, c, a), "sb"}, wrong{"none second", of(kind, a, c), "sb"})
				}
				for _, kind := range []int{opposite, subshell, group} {
					l = append(l, wrong{"none in one", of(kind, c), "sb"})
				}
				l = append(l, wrong{"none else", of(branch, a, a, c), "sb"}, wrong{"none in a loop", api.Cmd{Kind: each, Name: "x", Kids: []api.Cmd{c}}, "sb"})
			}
		}
	}
	fun := func(c api.Cmd) api.Cmd { return api.Cmd{Kind: function, Name: "f", Kids: []api.Cmd{c}} }
	l = append(l, wrong{"a function of words", fun(a), "sb"}, wrong{"a function of a function", fun(fun(of(group, a))), "sb"}, wrong{"a function of local", fun(api.Cmd{Kind: local}), "b"})
	nones(t, l)
	for kind, c := range rich() {
		for _, bash := range dialects("sb") {
			if _, ok := comesBack(t, c, bash); ok != (bash || kind < question && kind != none) && kind != none {
				t.Errorf("P15.1: a command of kind %d, %v: %v", kind, bash, ok)
			}
		}
	}
}

// rich: a command of each kind, by its kind, that both dialects have if its kind is one that both have.
func rich() []api.Cmd {
	a := call("a")
	redirs := []api.Redir{{FD: 1, Op: ">", Word: words("r")[0]}}
	return []api.Cmd{
		{},
		{Kind: simple, Words: words("a", "b"), Redirs: redirs},
		of(sequence, a, a),
		of(both, a, a),
		of(either, a, a),
		of(opposite, a),
		of(pipeline, a, a),
		{Kind: subshell, Kids: []api.Cmd{a}, Redirs: redirs},
		{Kind: group, Kids: []api.Cmd{a}, Redirs: redirs},
		{Kind: branch, Kids: []api.Cmd{a, a, a}, Redirs: redirs},
		{Kind: while, Kids: []api.Cmd{a, a}, Redirs: redirs},
		{Kind: until, Kids: []api.Cmd{a, a}, Redirs: redirs},
		{Kind: each, Name: "x", Words: words("a"), Kids: []api.Cmd{a}, Redirs: redirs},
		{Kind: choice, Words: words("a"), Cases: []api.Case{{Pats: words("b", "c"), Body: a}, {Pats: words("d")}}, Redirs: redirs},
		{Kind: function, Name: "f", Kids: []api.Cmd{of(group, a)}},
		{Kind: question, Conds: []api.Cond{{Op: "-n", Words: words("a")}}, Redirs: redirs},
		{Kind: arithmetic, Sums: sums("a"), Redirs: redirs},
		{Kind: counting, Sums: sums("a", "b", "c"), Kids: []api.Cmd{a}, Redirs: redirs},
		{Kind: local, Assigns: []api.Assign{{Name: "a"}, {Name: "b", Op: "=", Word: words("c")[0]}}},
	}
}

// TestStrange: P15.1, a command that has what its kind has not has no text.
func TestStrange(t *testing.T) {
	a := call("a")
	other := api.Cmd{
		Name: "x", Words: words("a"), Assigns: []api.Assign{{Name: "b", Op: "="}}, Redirs: []api.Redir{{FD: 1, Op: ">", Word: words("r")[0]}},
		Kids: []api.Cmd{a}, Cases: []api.Case{{}}, Conds: []api.Cond{{Op: "-n", Words: words("a")}}, Sums: sums("s"),
	}
	may := map[int]string{simple: "Words Redirs", subshell: "Redirs Kids", group: "Redirs Kids", branch: "Redirs Kids", while: "Redirs Kids", until: "Redirs Kids", each: "Name Words Redirs Kids", choice: "Words Redirs Cases", function: "Name Kids", question: "Redirs Conds", arithmetic: "Redirs Sums", counting: "Redirs Kids Sums", local: "Assigns", sequence: "Kids", both: "Kids", either: "Kids", opposite: "Kids", pipeline: "Kids"}
	for kind, c := range rich() {
		for i := range reflect.TypeOf(c).NumField() {
			name := reflect.TypeOf(c).Field(i).Name
			if name == "Kind" || name == "At" || strings.Contains(" "+may[kind]+" ", " "+name+" ") {
				continue
			}
			strange := twin(c)
			reflect.ValueOf(&strange).Elem().Field(i).Set(reflect.ValueOf(other).Field(i))
			noText(t, fmt.Sprintf("kind %d with %s", kind, name), strange, "sb")
		}
	}
}

// TestBashAlone: P15.1, what sh has not has no text in it.
func TestBashAlone(t *testing.T) {
	for _, s := range []string{"[[ a ]]", "((a))", "for ((;;)) do a; done", "f() { local a; }", "{ [[ a ]]; }", "a $([[ b ]])", "a+=b", "a[1]=b", "a=(b)", "a=()", "a <<<b", "a &>b", "(a) <<<b", "a <(b)", "a <()", "a ${b-<(c)}", "a ${b:1}", "a ${b:1:2}", "a ${b/c}", "a ${b//c/d}", "a ${b^}", "a ${b^^}", "a ${b,}", "a ${b,,}", "a ${b[1]}", "a ${b[@]}", "a ${b[*]}", "a ${#b[@]}", "a \"${b^}\"", "a $((b++))", "a $((--b))", "a $((b ** 2))", "a ${b-$((c++))}", "function if { a; }", "a <<E\n${b^}\nE\n", "case a in ${b^}) ;; esac", "for x in ${b^}; do c; done"} {
		c := made(t, s, true)
		noText(t, s, c, "s")
		if _, ok := comesBack(t, c, true); !ok {
			t.Errorf("P15.2: %q has no text", s)
		}
	}
	for s, want := range map[string]string{"a $'b\\n'$'c'd": "a 'b\nc'd\n", "a ${b-$'c'}": "a ${b-'c'}\n", "a <<$'E'\nb\nE\n": "a <<'EOF'\nb\nEOF\n"} {
		tells(t, s, made(t, s, true), "sb", want)
	}
	tells(t, "local", call("local", "a"), "s", "local a\n")
	tells(t, "what looks like an assignment", call("a+=b", "a[1]=b"), "s", "a+=b a[1]=b\n")
	tells(t, "what looks like an element", call("a[1]=b"), "s", "a[1]=b\n")
}

// TestFirst: P15.1, first words that are read as other things have a text behind redirections, or none.
func TestFirst(t *testing.T) {
	redirs := []api.Redir{{FD: 2, Op: ">", Word: words("r")[0]}, {Op: "<", Word: words("s")[0]}}
	for _, s := range strings.Fields("if then elif else fi do done case esac while until for in { } ! function [[ ]] select") {
		c := call(s, "b")
		noText(t, s, c, "sb")
		c.Redirs = redirs
		tells(t, s+" behind redirections", c, "sb", "2>r <s "+s+" b\n")
		tells(t, s+" behind a word", call("a", s), "sb", "a "+s+"\n")
		tells(t, s+" in quotes", says(word(quote(s))), "sb", "'"+s+"'\n")
		tells(t, s+" with more", says(word(bareText(s), quote(""))), "sb", s+"''\n")
	}
	for _, s := range []string{"a=b", "a=", "_1=b", "a==", strings.Repeat("a", 64) + "=b"} {
		c := call(s)
		noText(t, s, c, "sb")
		c.Redirs = redirs
		noText(t, s+" behind redirections", c, "sb")
		noText(t, s+" with more", says(word(bareText(s), quote("c"))), "sb")
		tells(t, s+" behind a word", call("a", s), "sb", "a "+s+"\n")
	}
	for _, s := range []string{"a+=b", "a+="} {
		noText(t, s, call(s), "b")
		tells(t, s, call(s), "s", s+"\n")
	}
	for _, s := range []string{"1a=b", "=b", "a-=b", "+=b", "a++=b", strings.Repeat("a", 65) + "=b"} {
		tells(t, s, call(s), "sb", s+"\n")
	}
	noText(t, "local", call("local"), "b")
	c := call("local", "a")
	c.Redirs = redirs
	noText(t, "local behind redirections", c, "b")
	tells(t, "local", call("local"), "s", "local\n")
	tells(t, "what begins with local", call("locala"), "sb", "locala\n")
	for _, x := range []struct{ s, rest, text string }{{"a[1]", "b", "a[1] b\n"}, {"a[1]b", "c", "a[1]b c\n"}, {"a[1]=", "b", "a\\\n[1]= b\n"}, {"a[1]+=b", "c", "a\\\n[1]+=b c\n"}, {"a[", "b", "a\\\n[ b\n"}, {"a[1]+", "=", "a[1]+ =\n"}, {"[", "a", "[ a\n"}, {"1[2]=", "a", "1[2]= a\n"}} {
		tells(t, x.s, call(x.s, x.rest), "b", x.text)
		tells(t, x.s, call(x.s, x.rest), "s", x.s+" "+x.rest+"\n")
	}
	tells(t, "an element of a quoted text", says(word(bareText("a["), quote("]"), bareText("=b"))), "b", "a[']'=b\n")
	tells(t, "an element of a parameter", says(word(bareText("a["), param("b", ""), bareText("]=c"))), "b", "a\\\n[${b}]=c\n")
}

// TestAssigns: P15.1, assignments that no text makes.
func TestAssigns(t *testing.T) {
	b := words("b")[0]
	for _, x := range []struct {
		what        string
		a           api.Assign
		names       string
		simple, own bool // has it a text as an assignment, or as a local variable?
	}{
		{"a text", api.Assign{Name: "a", Op: "=", Word: b}, "b", true, true},
		{"more text", api.Assign{Name: "a", Op: "+=", Word: b}, "b", true, false},
		{"an empty text", api.Assign{Name: "a", Op: "="}, "sb", true, true},
		{"no assignment", api.Assign{Name: "a"}, "b", false, true},
		{"no assignment, but a text", api.Assign{Name: "a", Word: b}, "sb", false, false},
		{"another Op", api.Assign{Name: "a", Op: "-=", Word: b}, "sb", false, false},
		{"no name", api.Assign{Op: "=", Word: b}, "sb", false, false},
		{"another name", api.Assign{Name: "a b", Op: "=", Word: b}, "sb", false, false},
		{"a long name", api.Assign{Name: strings.Repeat("a", 65), Op: "=", Word: b}, "sb", false, false},
		{"a reserved word as a name", api.Assign{Name: "if", Op: "=", Word: b}, "b", true, true},
		{"a list, but no array", api.Assign{Name: "a", Op: "=", List: words("b")}, "sb", false, false},
		{"an array", api.Assign{Name: "a", Op: "=", Array: true, List: words("b", "if", "x=y")}, "b", true, false},
		{"more of an array", api.Assign{Name: "a", Op: "+=", Array: true}, "b", true, false},
		{"an array with a text", api.Assign{Name: "a", Op: "=", Array: true, Word: b}, "sb", false, false},
		{"an array with a sum", api.Assign{Name: "a", Op: "=", Array: true, Sums: sums("i")}, "sb", false, false},
		{"an array with an empty word", api.Assign{Name: "a", Op: "=", Array: true, List: make([]api.Word, 1)}, "sb", false, false},
		{"an array with a remark", api.Assign{Name: "a", Op: "=", Array: true, List: words("#b")}, "sb", false, false},
		{"an element", api.Assign{Name: "a", Op: "=", Sums: sums("i"), Word: b}, "b", true, false},
		{"more of an element", api.Assign{Name: "a", Op: "+=", Sums: sums("i")}, "b", true, false},
		{"an element of two", api.Assign{Name: "a", Op: "=", Sums: sums("i", "j"), Word: b}, "sb", false, false},
		{"an element of what is no sum", api.Assign{Name: "a", Op: "=", Sums: []api.Sum{{Op: "x"}}, Word: b}, "sb", false, false},
		{"an element that is a list", api.Assign{Name: "a", Op: "=", Sums: sums("i"), List: words("b")}, "sb", false, false},
		{"a word that is wrong", api.Assign{Name: "a", Op: "=", Word: words("b c")[0]}, "sb", false, false},
		{"what begins as a remark", api.Assign{Name: "a", Op: "=", Word: words("#b")[0]}, "b", true, true},
		{"an element that begins as a remark", api.Assign{Name: "a", Op: "=", Sums: sums("i"), Word: words("#b")[0]}, "b", true, false},
	} {
		for _, bash := range dialects(x.names) {
			for _, first := range []bool{true, false} {
				l := []api.Assign{x.a}
				if !first {
					l = append([]api.Assign{{Name: "z", Op: "="}}, l...)
				}
				if _, ok := comesBack(t, api.Cmd{Kind: simple, Assigns: l}, bash); ok != x.simple {
					t.Errorf("P15.1: an assignment of %s, %v: %v", x.what, bash, ok)
				}
				if _, ok := comesBack(t, api.Cmd{Kind: local, Assigns: l}, bash); ok != (x.own && bash) {
					t.Errorf("P15.1: local, %s, %v: %v", x.what, bash, ok)
				}
			}
		}
	}
}

// TestRedirections: P15.1, redirections that no text makes.
func TestRedirections(t *testing.T) {
	with := func(r api.Redir) api.Cmd { return api.Cmd{Kind: simple, Redirs: []api.Redir{r}} }
	a := words("a")[0]
	var l []wrong
	for _, op := range []string{"<", ">", ">>", "<<<", "&>"} {
		for fd := range 3 {
			if s, ok := comesBack(t, with(api.Redir{FD: fd, Op: op, Word: a}), true); !ok || len(s) > len(op)+3 {
				t.Errorf("P15.1: %d%s: %q", fd, op, s)
			}
		}
		l = append(l, wrong{op + " of 3", with(api.Redir{FD: 3, Op: op, Word: a}), "sb"}, wrong{op + " of -1", with(api.Redir{FD: -1, Op: op, Word: a}), "sb"},
			wrong{op + " without a word", with(api.Redir{Op: op}), "sb"}, wrong{op + " of a remark", with(api.Redir{Op: op, Word: words("#a")[0]}), "sb"})
	}
	for _, op := range []string{"", "<>", "<&", ">|", "<<-", "x", ">\n"} {
		l = append(l, wrong{"another Op " + op, with(api.Redir{Op: op, Word: a}), "sb"})
	}
	for _, w := range []api.Word{{}, a, words("3")[0], words("11")[0], word(param("x", "")), word(bareText("1"), param("x", "")), word(quote(""))} {
		l = append(l, wrong{fmt.Sprint(">& ", w), with(api.Redir{FD: 1, Op: ">&", Word: w}), "sb"})
	}
	for _, w := range []api.Word{words("1")[0], words("2")[0], word(quote("1")), word(quote(""), bareText("2"))} {
		if _, ok := comesBack(t, with(api.Redir{FD: 2, Op: ">&", Word: w}), false); !ok {
			t.Error("P15.1: >&", w)
		}
	}
	here := func(l ...api.Part) api.Cmd { return with(api.Redir{Op: "<<", Word: word(l...)}) }
	l = append(l,
		wrong{"a heredoc of no parts", here(), "sb"}, wrong{"a heredoc of unquoted text", here(bareText("a\n")), "sb"}, wrong{"a heredoc of an unquoted parameter", here(param("a", "")), "sb"},
		wrong{"a heredoc of an empty text and more", here(quote(""), inQuote(param("a", ""))), "sb"}, wrong{"a heredoc with <( )", here(inQuote(api.Part{Kind: file})), "sb"},
		wrong{"a heredoc with a name", here(api.Part{Kind: text, Text: "a\n", Name: "b", Quoted: true}), "sb"},
		wrong{"a heredoc within $( )", says(word(run(here(quote("a\n"))))), "sb"}, wrong{"a heredoc within <( )", says(word(api.Part{Kind: file, List: []api.Cmd{here(quote("a\n"))}})), "sb"},
		wrong{"a heredoc of 3", with(api.Redir{FD: 3, Op: "<<", Word: word(quote("a\n"))}), "sb"},
	)
	nones(t, l)
	tells(t, "a heredoc of two texts", here(quote("a"), quote("\n")), "sb", "<<'EOF'\na\nEOF\n")
	tells(t, "a heredoc of empty texts", here(quote(""), quote("")), "sb", "<<'EOF'\nEOF\n")
	tells(t, "a heredoc of a text and no newline", here(quote("a`$\"\\")), "sb", "<<EOF\na\\`\\$\"\\\\\\\nEOF\n")
	tells(t, "a heredoc of a parameter and a text", here(inQuote(param("a", "")), quote("b")), "sb", "<<EOF\n${a}b\\\nEOF\n")
}

// TestConds: P15.1, conditions that no text makes.
func TestConds(t *testing.T) {
	with := func(x api.Cond) api.Cmd { return api.Cmd{Kind: question, Conds: []api.Cond{x}} }
	a := api.Cond{Op: "word", Words: words("a")}
	of := func(op string, l ...api.Cond) api.Cond { return api.Cond{Op: op, Kids: l} }
	asks := func(op string, l ...string) api.Cond { return api.Cond{Op: op, Words: words(l...)} }
	bad := []api.Cond{{}, of("&&"), of("&&", a), of("||", a), of("||", a, a, a), of("!"), of("!", a, a), of("", a), of("word", a), of("-n", a), of("=", a, a),
		{Op: "&&", Kids: []api.Cond{a, a}, Words: words("a")}, {Op: "!", Kids: []api.Cond{a}, Words: words("a")}, {Op: "-n", Kids: []api.Cond{a}, Words: words("a")},
		asks("-n"), asks("-n", "a", "b"), asks("word"), asks("word", "a", "b"), asks("="), asks("=", "a"), asks("=", "a", "b", "c"), asks("", "a"), asks("-x", "a"), asks("=~", "a", "b"), asks("<", "a", "b"), asks("-nt", "a", "b"),
		asks("word", "!"), asks("word", "]]"), asks("-n", "]]"), asks("=", "]]", "a"), asks("=", "a", "]]"), asks("=", "!", "a"), asks("word", "#a"), asks("-n", "#a"), asks("=", "a", "#b"), asks("word", "a b"), asks("word", "(")}
	var l []wrong
	for _, x := range bad {
		l = append(l, wrong{fmt.Sprint("a condition ", x), with(x), "sb"}, wrong{fmt.Sprint("a condition within others ", x), with(of("!", of("||", of("&&", a, x), a))), "sb"})
	}
	nones(t, l)
	for _, x := range []api.Cond{asks("-n", "!"), asks("-n", "="), asks("word", "-n"), asks("=", "-n", "-n"), asks("==", "=", "="), asks("!=", "a", "!"), asks("word", "]]a"), asks("word", "!a"), {Op: "word", Words: []api.Word{word(quote("!"))}}, {Op: "=", Words: []api.Word{word(quote("]]")), word(quote("!"))}}} {
		for _, y := range []api.Cond{x, of("!", x), of("&&", x, x), of("||", of("&&", of("!", x), x), of("!", of("||", x, of("||", x, x))))} {
			if s, ok := comesBack(t, with(y), true); !ok {
				t.Errorf("P15.1: a condition %v: %q", y, s)
			}
		}
	}
}

// TestParts: P15.1, words and parts that no text makes.
func TestParts(t *testing.T) {
	var l []wrong
	add := func(names string, parts ...api.Part) {
		l = append(l, wrong{fmt.Sprint("a word of ", parts), says(words("a")[0], word(parts...)), names})
	}
	add("sb")
	add("sb", bareText(""))
	add("sb", bareText("a"), bareText("b"))
	add("sb", quote("a"), bareText("b"), bareText("c"))
	for c := range 256 {
		s := string([]byte{byte(c)})
		plain := !strings.Contains("\x00`\\$'\" \t\n;&|<>()", s)
		if plain {
			tells(t, "an octet "+s, says(word(bareText("%"+s))), "sb", "%"+s+"\n")
		} else {
			add("sb", bareText("%"+s))
		}
		inner := !strings.Contains("\x00`\\$'\"}", s)
		pattern := inner && s != "/"
		x := []api.Part{bareText("x" + s)}
		for _, p := range []struct {
			p  api.Part
			ok bool
		}{{param("b", "-", x...), inner}, {param("b", "#", x...), inner}, {inQuote(param("b", "%", x...)), inner}, {param("b", "/", x...), pattern}, {api.Part{Kind: parameter, Name: "b", Op: "/", More: x}, inner}, {param("b", "-", quote("x"+s)), c != 0}, {inQuote(param("b", "-", quote("x"+s))), c != 0 && s != "}"}, {quote("x" + s), c != 0}, {inQuote(param("b", "-", x...)), false}} {
			if _, ok := comesBack(t, says(words("a")[0], word(p.p)), true); ok != p.ok {
				t.Errorf("P15.1: octet %d in %v: %v", c, p.p, ok)
			}
		}
	}
	l = append(l, wrong{"a first word that is a remark", call("#a"), "sb"}, wrong{"an octet 0 ahead of all", call("\x00"), "sb"})
	add("sb", bareText("#a"))
	add("sb", bareText("#"), quote("a"))
	for kind := range 8 {
		if kind < text || kind > file {
			add("sb", api.Part{Kind: kind, Text: "a"})
			add("sb", bareText("a"), api.Part{Kind: kind})
			add("sb", inQuote(param("a", "")), api.Part{Kind: kind, Quoted: true})
		}
	}
	add("sb", api.Part{Kind: -1})
	for _, name := range []string{"", "a-b", "@@", "$", "!", "-", "a b", "1a", strings.Repeat("a", 65), "a\x00", "é"} {
		add("sb", param(name, ""))
		add("sb", param(name, "-"))
		add("sb", param(name, "len"))
		add("sb", param(name, "len[@]"))
	}
	for _, name := range strings.Fields("1 @ * # ?") {
		add("sb", param(name, "len[@]"))
	}
	for _, op := range []string{"x", "ansi", "len[*]", "&", "::", "-:", "~", "[", "###", "}"} {
		add("sb", param("a", op))
		add("sb", param("a", op, bareText("b")))
	}
	nones(t, l)
	long := strings.Repeat("1", 100)
	tells(t, "a parameter of many digits", says(word(param(long, ""))), "sb", "${"+long+"}\n")
}

// TestOps: P15.1, what stands behind each Op, for each sort of parameter, within quotes and without; and what does not.
func TestOps(t *testing.T) {
	ops := map[string]string{"": "", "len": "", "^": "", "^^": "", ",": "", ",,": "", "[@]": "", "[*]": "", "len[@]": "", "[]": "1", ":": "12", "/": "wm", "//": "wm"}
	for _, op := range strings.Fields(":- - := = :? ? :+ + # ## % %%") {
		ops[op] = "w"
	}
	for op, needs := range ops {
		for _, name := range strings.Fields("a if _1 0 12 @ * # ?") {
			for n := range 4 {
				for i := range 4 {
					for _, quoted := range []bool{false, true} {
						p := api.Part{Kind: parameter, Name: name, Op: op, Quoted: quoted, Sums: sums("s", "t", "u")[:n]}
						if i&1 > 0 {
							p.Word = []api.Part{quote("w")}
						}
						if i&2 > 0 {
							p.More = []api.Part{quote("m")}
						}
						want := (n == 0 && !strings.Contains(needs, "1") || strings.Contains(needs, fmt.Sprint(n))) && (i&1 == 0 || strings.Contains(needs, "w")) && (i&2 == 0 || strings.Contains(needs, "m"))
						if op == "len[@]" && !strings.Contains("a if _1", name) {
							want = false
						}
						if _, ok := comesBack(t, says(words("a")[0], word(p)), true); ok != want {
							t.Errorf("P15.1: %v: %v, not %v", p, ok, want)
						}
					}
				}
			}
		}
	}
}

// TestStrangeParts: P15.1, a part that has what its kind has not has no text; nor has one that is quoted, or not, where it may not be.
func TestStrangeParts(t *testing.T) {
	good := []api.Part{bareText("a"), quote("a"), param("a", ""), param("a", "-", quote("b")), {Kind: parameter, Name: "a", Op: ":", Sums: sums("b")}, run(call("a")), run(), {Kind: sum, Sums: sums("a")}, {Kind: file, List: []api.Cmd{call("a")}}, {Kind: file}}
	other := api.Part{Text: "t", Name: "n", Op: "-", Word: []api.Part{quote("w")}, More: []api.Part{quote("m")}, Sums: sums("s", "s"), List: []api.Cmd{call("l"), call("m")}}
	may := map[int]string{text: "Text", parameter: "Name Op Word", list: "", sum: "", file: ""}
	for _, p := range good {
		if _, ok := comesBack(t, says(words("a")[0], word(p)), true); !ok {
			t.Errorf("P15.1: a word of %v has no text", p)
		}
		for i := range reflect.TypeOf(p).NumField() {
			name := reflect.TypeOf(p).Field(i).Name
			if strings.Contains(" Kind Quoted At "+may[p.Kind]+" ", " "+name+" ") {
				continue
			}
			strange := twin(p)
			reflect.ValueOf(&strange).Elem().Field(i).Set(reflect.ValueOf(other).Field(i))
			if p.Op == ":" && name == "Sums" {
				continue // it may have two
			}
			noText(t, fmt.Sprintf("kind %d with %s: %v", p.Kind, name, strange), says(words("a")[0], word(strange)), "sb")
			noText(t, fmt.Sprintf("kind %d with %s, quoted: %v", p.Kind, name, strange), says(word(inQuote(param("a", "")), inQuote(strange))), "sb")
		}
	}
	for _, p := range good {
		quoted := inQuote(p)
		_, ok := comesBack(t, says(word(quoted)), true)
		if ok != (p.Kind != file) {
			t.Errorf("P15.1: a quoted %v: %v", p, ok)
		}
		_, ok = comesBack(t, says(word(inQuote(param("a", "-", p)))), true)
		if ok != (p.Quoted && p.Kind != file) {
			t.Errorf("P15.1: %v in a quoted parameter: %v", p, ok)
		}
		_, ok = comesBack(t, says(word(inQuote(param("a", "-", quoted)))), true)
		if ok != (p.Kind != file) {
			t.Errorf("P15.1: a quoted %v in a quoted parameter: %v", p, ok)
		}
	}
	nones(t, []wrong{
		{"an empty text in a quoted parameter", says(word(inQuote(param("a", "-", quote(""))))), "sb"},
		{"an empty text ahead in a quoted parameter", says(word(inQuote(param("a", "-", quote(""), inQuote(param("b", "")))))), "sb"},
		{"a list of no kind", says(word(run(api.Cmd{}))), "sb"},
		{"a list of two", says(word(run(call("a"), call("b")))), "sb"},
		{"a list that has no text", says(word(run(call("#a")))), "sb"},
		{"a list in braces that has no text", says(word(param("a", "-", run(call("#a"))))), "sb"},
		{"a list with its text alone", says(word(api.Part{Kind: list, Text: "a"})), "sb"},
		{"a sum of none", says(word(api.Part{Kind: sum})), "sb"},
		{"a sum of two", says(word(api.Part{Kind: sum, Sums: sums("a", "b")})), "sb"},
		{"a sum that is none", says(word(api.Part{Kind: sum, Sums: []api.Sum{{Op: "+", Kids: sums("a")}}})), "sb"},
	})
	tells(t, "an unquoted text with an Op ansi", says(word(api.Part{Kind: text, Text: "a", Op: "ansi"})), "sb", "a\n")
	tells(t, "an ansi text behind another one", says(word(quote("a"), api.Part{Kind: text, Text: "b", Op: "ansi", Quoted: true})), "sb", "'ab'\n")
	tells(t, "an empty text ahead of another one in a quoted parameter", says(word(inQuote(param("a", "-", quote(""), quote("b"))))), "sb", "\"${a-b}\"\n")
}

// TestPlaces: P15.1, of At nothing hangs.
func TestPlaces(t *testing.T) {
	c := made(t, "a $(b) ${c-$(d)} >e; if f; then g; fi", false)
	want, _ := Script(c, false)
	c.At, c.Kids[0].At, c.Kids[1].At, c.Kids[1].Kids[0].At = 7, -1, 1<<40, 3
	for i := range c.Kids[0].Words {
		for j := range c.Kids[0].Words[i].Parts {
			c.Kids[0].Words[i].Parts[j].At = 100 * (i + j)
		}
	}
	if s, e := Script(c, false); s != want || e != api.OK || !parse.Same(c, made(t, want, false)) {
		t.Errorf("P15.1: with other places: %q, %d, not %q", s, e, want)
	}
}
