package print

import (
	"fmt"
	"math/rand"
	"reflect"
	"strings"
	"testing"

	"cowrie/api"
	"cowrie/arith"
	"cowrie/lex"
	"cowrie/parse"
)

// TestWord: P15.1, a word's text is what stands of it in its command's, and is read as the word.
func TestWord(t *testing.T) {
	for _, x := range []struct {
		w    api.Word
		want string
	}{
		{api.Word{}, ""},
		{words("a")[0], "a"},
		{word(quote("a b")), "'a b'"},
		{word(quote("")), "''"},
		{word(inQuote(param("x", ""))), "\"${x}\""},
		{word(quote("a"), inQuote(param("x", "")), bareText("*")), "\"a${x}\"*"},
		{word(quote("a"), api.Part{Kind: text, Text: "b", Op: "ansi", Quoted: true}), "'ab'"},
		{word(run(of(sequence, call("a"), call("b")))), "$(a\nb)"},
		{word(api.Part{Kind: file, List: []api.Cmd{call("a")}}), "<(a)"},
		{word(api.Part{Kind: sum, Sums: []api.Sum{{Op: "+", Kids: []api.Sum{{N: 1}, {Name: "x"}}}}}), "$((1+x))"},
		{word(api.Part{Kind: parameter, Name: "x", Op: ":", Sums: []api.Sum{{Op: "neg", Kids: []api.Sum{{N: 1}}}}}), "${x: -1}"},
		{word(param("x", "/", bareText("a"))), "${x/a}"},
	} {
		if got := Word(x.w); got != x.want {
			t.Errorf("P15.1: Word(%v): %q, not %q", x.w, got, x.want)
		}
	}
	g := grower{rand.New(rand.NewSource(6))}
	good := 0
	for i := range 30000 {
		w := g.word(i % 3)
		got := Word(w)
		s, ok := comesBack(t, says(words("a")[0], w), true)
		if !ok {
			continue
		}
		good++
		if s != "a "+got+"\n" {
			t.Errorf("P15.1: Word(%v): %q, but it stands in %q", w, got, s)
		}
		c := made(t, "a "+got, true)
		if want := bareWord(w); len(c.Words) != 2 || !parse.SameWord(bareWord(c.Words[1]), want) {
			t.Errorf("P15.1: Word(%v): %q, of which parse makes %v", w, got, c)
		}
	}
	if good < 10000 {
		t.Error("P15.1: so many words had a text:", good)
	}
}

// TestLexed: P15.1, a word that lex has read, whose lists are texts, has some text, too: one that lex reads so.
func TestLexed(t *testing.T) {
	for _, s := range []string{"a$(b c)\"$(d 'e)')\"", "${x-$(a;b)}", "<(a)", "$( (a) )", "$()"} {
		w, _, e := lex.Word(s, 0, true)
		got := Word(w)
		again, n, f := lex.Word(got, 0, true)
		if e != api.OK || f != api.OK || n != len(got) || !parse.SameWord(w, again) {
			t.Errorf("P15.1: Word of %q as lex reads it: %q", s, got)
		}
	}
}

// TestSum: P15.1, an expression's text, and none of what is no expression.
func TestSum(t *testing.T) {
	for s, want := range map[string]string{"": "0", "1 + 2 * x": "1+2*x", "(1 + 2) * x": "(1+2)*x", "x = y++": "x=y++", "$x ** 2": "x**2", "- -1": "- -1", "18446744073709551615": "-(0+1)"} {
		x, _, e := arith.Parse(s, true)
		if got := Sum(x); got != want || e != api.OK {
			t.Errorf("P15.1: Sum of %q: %q, not %q", s, got, want)
		}
	}
	deep := api.Sum{}
	for range 1 << 12 {
		deep = api.Sum{Op: "neg", Kids: []api.Sum{deep}}
	}
	for _, x := range []api.Sum{{N: -1}, {Name: "a b"}, {Name: "a", N: 1}, {Op: "+"}, {Op: "x"}, {Op: "=", Kids: []api.Sum{{N: 1}, {N: 2}}}, deep} {
		if got := Sum(x); got != "" {
			t.Errorf("P15.1: Sum of what is no expression: %q", got)
		}
	}
}

// flat tells all that a value has, but in parts as Bare is to leave them: texts without ansi, and quoted ones next to each other as one.
func flat(v reflect.Value) string {
	var out strings.Builder
	switch v.Kind() {
	case reflect.Struct:
		for i := range v.NumField() {
			fmt.Fprintf(&out, "%s<%s>", v.Type().Field(i).Name, flat(v.Field(i)))
		}
	case reflect.Slice:
		l, ok := v.Interface().([]api.Part)
		for i := range v.Len() {
			if !ok || l[i].Kind != text {
				fmt.Fprintf(&out, "[%s]", flat(v.Index(i)))
				continue
			}
			if i == 0 || l[i-1].Kind != text || !l[i-1].Quoted || !l[i].Quoted {
				fmt.Fprintf(&out, "|%v %d ", l[i].Quoted, l[i].At)
			}
			fmt.Fprintf(&out, "%q", l[i].Text)
		}
		return strings.ReplaceAll(out.String(), `""`, "")
	default:
		fmt.Fprint(&out, v.Interface())
	}
	return out.String()
}

// parts does it with all lists of parts within.
func parts(v reflect.Value, do func([]api.Part)) {
	switch v.Kind() {
	case reflect.Struct:
		for i := range v.NumField() {
			parts(v.Field(i), do)
		}
	case reflect.Slice:
		if l, ok := v.Interface().([]api.Part); ok {
			do(l)
		}
		for i := range v.Len() {
			parts(v.Index(i), do)
		}
	}
}

// TestBare: P15.1, Bare leaves out ansi and what parts quoted texts, and nothing else.
func TestBare(t *testing.T) {
	ansi := func(s string) api.Part { return api.Part{Kind: text, Text: s, Op: "ansi", Quoted: true} }
	for _, x := range []struct{ l, want []api.Part }{
		{nil, nil},
		{[]api.Part{quote("a"), quote("b")}, []api.Part{quote("ab")}},
		{[]api.Part{quote("a"), ansi("b"), quote("c")}, []api.Part{quote("abc")}},
		{[]api.Part{ansi("a")}, []api.Part{quote("a")}},
		{[]api.Part{quote(""), quote("")}, []api.Part{quote("")}},
		{[]api.Part{quote(""), bareText("a"), quote("")}, []api.Part{quote(""), bareText("a"), quote("")}},
		{[]api.Part{bareText("a"), bareText("b")}, []api.Part{bareText("a"), bareText("b")}},
		{[]api.Part{quote("a"), bareText("b"), quote("c"), quote("d")}, []api.Part{quote("a"), bareText("b"), quote("cd")}},
		{[]api.Part{{Kind: text, Text: "a", Op: "ansi"}}, []api.Part{bareText("a")}},
		{[]api.Part{quote("a"), inQuote(param("x", "")), quote("b")}, []api.Part{quote("a"), inQuote(param("x", "")), quote("b")}},
		{[]api.Part{param("x", "ansi")}, []api.Part{param("x", "ansi")}},
		{[]api.Part{param("x", "-", quote("a"), ansi("b"))}, []api.Part{param("x", "-", quote("ab"))}},
		{[]api.Part{{Kind: parameter, Name: "x", Op: "/", More: []api.Part{quote("a"), ansi("b")}}}, []api.Part{{Kind: parameter, Name: "x", Op: "/", More: []api.Part{quote("ab")}}}},
		{[]api.Part{run(says(word(quote("a"), ansi("b"))))}, []api.Part{run(says(word(quote("ab"))))}},
	} {
		w, want := word(x.l...), word(x.want...)
		for what, in := range map[string]func(w api.Word) api.Cmd{
			"words":       func(w api.Word) api.Cmd { return says(w) },
			"assignments": func(w api.Word) api.Cmd { return api.Cmd{Assigns: []api.Assign{{Word: w}}} },
			"arrays":      func(w api.Word) api.Cmd { return api.Cmd{Assigns: []api.Assign{{List: []api.Word{w}}}} },
			"redirs":      func(w api.Word) api.Cmd { return api.Cmd{Redirs: []api.Redir{{Word: w}}} },
			"patterns":    func(w api.Word) api.Cmd { return api.Cmd{Cases: []api.Case{{Pats: []api.Word{w}}}} },
			"bodies":      func(w api.Word) api.Cmd { return api.Cmd{Cases: []api.Case{{Body: says(w)}}} },
			"conditions": func(w api.Word) api.Cmd {
				return api.Cmd{Conds: []api.Cond{{Kids: []api.Cond{{Words: []api.Word{w}}}}}}
			},
			"kids": func(w api.Word) api.Cmd { return of(group, of(both, says(w))) },
		} {
			if got := Bare(in(w)); !parse.Same(got, in(want)) {
				t.Errorf("P15.1: Bare of %v in %s: %v, not %v", x.l, what, got, in(want))
			}
		}
	}
	g := grower{rand.New(rand.NewSource(7))}
	for i := range 4000 {
		c := g.list(i % 4)
		got := Bare(c)
		if flat(reflect.ValueOf(got)) != flat(reflect.ValueOf(c)) || !reflect.DeepEqual(Bare(got), got) {
			t.Fatalf("P15.1: Bare(%v): %v", c, got)
		}
		parts(reflect.ValueOf(got), func(l []api.Part) {
			for i, p := range l {
				if p.Kind == text && (p.Op == "ansi" || i > 0 && p.Quoted && l[i-1].Kind == text && l[i-1].Quoted) {
					t.Fatalf("P15.1: Bare(%v): %v", c, got)
				}
			}
		})
		for _, bash := range []bool{false, true} {
			a, e := Script(c, bash)
			b, f := Script(got, bash)
			if a != b || e != f {
				t.Fatalf("P15.1: Script of %v, %v: %q, %d, but bare %q, %d", c, bash, a, e, b, f)
			}
		}
	}
}
