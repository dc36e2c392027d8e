package lex

import (
	"fmt"
	"math/rand"
	"strings"
	"testing"

	"cowrie/ansi"
	"cowrie/api"
	"cowrie/arith"
)

// spans: every text of those octets that is at most so long.
func spans(octets string, most int) []string {
	all := []string{""}
	last := all
	for range most {
		var next []string
		for _, s := range last {
			for i := range len(octets) {
				next = append(next, s+octets[i:i+1])
			}
		}
		all = append(all, next...)
		last = next
	}
	return all
}

// held holds a word against the model; too many faults are not told.
func held(t *testing.T, s string, at int, bash bool, bad *int) {
	t.Helper()
	if got, want := told(Word(s, at, bash)), slowWord(s, at, bash); got != want {
		if *bad++; *bad <= 5 {
			t.Errorf("P13.1: Word(%q, %d, %t): %s, want %s", s, at, bash, got, want)
		}
	}
}

// TestWordAll: P13.1, every short text of each sort.
func TestWordAll(t *testing.T) {
	for _, c := range []struct {
		ahead, octets string
		most          int
	}{
		{"", "a\\'\"\n $", 5}, {"", "a$\"`{}'", 5}, {"", "a<(>)$;", 5}, {"", "$({)'\"\\", 5}, {"$", "a1_@*#?$", 4}, {"${", "a1#?@}:-", 5}, {"${#", "a#?*}[@]", 5},
		{"${a", ":-=?+#%}", 4}, {"${a", "/}a\"\\'$", 5}, {"\"${a", "#:-\"}'a", 5}, {"\"${a", "/\\}\"$a", 5}, {"${a", "[]@*1}x", 5}, {"${a", "^,/}a", 5},
		{"${a:", "1?:}()", 6}, {"$((", "1()+'\"", 5}, {"\"$((", "1()+\"", 5}, {"$'", "\\'ax10", 5}, {"\"$'", "\\'\"$a", 5}, {"${a-", "b }\n;(<", 5}, {"${a#", "<()}`\"$", 4},
		{"\"", "\"\\$`'a\n", 5}, {"$(", "()'\"\\a", 6}, {"<(", "()'\"\\a", 5}, {"\"${a-${b#", "\"}'${c", 5}, {"${##", "#?%:-}[", 4},
	} {
		bad := 0
		for _, s := range spans(c.octets, c.most) {
			held(t, c.ahead+s, 0, false, &bad)
			held(t, c.ahead+s, 0, true, &bad)
		}
	}
}

// TestLongAll: P4, P13.1, every short text of each sort at the end of a script of MaxFile octets, and of a longer one. (A sum's ErrSyntax can't be told from the others here; TestLongFaults asks for it.)
func TestLongAll(t *testing.T) {
	most := strings.Repeat("x", api.MaxFile)
	for _, c := range []struct {
		ahead, octets string
		most          int
		sums          bool
	}{
		{"", "a\\'\"\n $`", 3, false}, {"", "a<(>)$;", 3, false}, {"$", "a1_@*#?{", 3, false}, {"${", "a1#?@}-`", 3, false}, {"${#a", "[@]}", 4, false}, {"\"${a-", "\"}'a`", 3, false}, {"${a/", "/}a\"", 3, false}, {"$'", "\\'ax\x00", 3, false}, {"${a^", "^}a", 3, false},
		{"$((", "1()+ ", 4, true}, {"${a:", "1?:}", 4, true}, {"${a[", "1]}@", 4, true},
	} {
		for _, s := range spans(c.octets, c.most) {
			s = c.ahead + s
			for _, bash := range []bool{false, true} {
				w, n, e := Word(s, 0, bash)
				at := len(most) - len(s)
				v, m, f := Word(most[:at]+s, at, bash)
				if m != at+n || f != e || len(v.Parts) != len(w.Parts) {
					t.Fatalf("P13.1: Word(%q, %t) at the end of a script of MaxFile octets: %s, want %d parts, %d, %d", s, bash, told(v, m, f), len(w.Parts), at+n, e)
				}
				if c.sums && e == api.ErrSyntax {
					continue
				}
				want := told(api.Word{}, len(most)+n, e)
				if e != api.ErrSyntax && e != api.ErrShort {
					want = told(api.Word{}, len(most), api.ErrLong)
				}
				if got := told(Word(most+s, len(most), bash)); got != want && s != "" {
					t.Fatalf("P13.1: Word(%q, %t) at the end of a script of more than MaxFile octets: %s, want %s", s, bash, got, want)
				}
			}
		}
	}
}

// TestOthersAll: P13.1, all but Word, of every short text, from each place.
func TestOthersAll(t *testing.T) {
	for _, s := range append(spans(" \\\n#a;", 5), spans("&|<>;(\n", 4)...) {
		for at := -1; at <= len(s)+1; at++ {
			if got, want := Space(s, at), slowSpace(s, at); got != want {
				t.Fatalf("P13.1: Space(%q, %d): %d, want %d", s, at, got, want)
			}
			for _, bash := range []bool{false, true} {
				if got, want := Operator(s, at, bash), slowOperator(s, at, bash); got != want {
					t.Fatalf("P13.1: Operator(%q, %d, %t): %q, want %q", s, at, bash, got, want)
				}
			}
		}
	}
	for _, s := range spans("()'\"\\a", 6) {
		for at := range 3 {
			n, e := Closed(s, at)
			if m, f := slowClosed(s, at); n != m || e != f {
				t.Fatalf("P13.1: Closed(%q, %d): %d, %d, want %d, %d", s, at, n, e, m, f)
			}
		}
	}
	for _, octets := range []string{"E\n\\\"$a", "E\n${}-\"", "E\n`$a'\\"} {
		for _, s := range spans(octets, 5) {
			for _, plain := range []bool{false, true} {
				if got, want := told(Heredoc(s, 0, "E", plain, true)), slowHeredoc(s, 0, "E", plain, true); got != want {
					t.Fatalf("P13.1: Heredoc(%q, 0, E, %t, true): %s, want %s", s, plain, got, want)
				}
				if got, want := told(Heredoc(s+"\n", 1, "", plain, false)), slowHeredoc(s+"\n", 1, "", plain, false); got != want {
					t.Fatalf("P13.1: Heredoc(%q, 1, , %t, false): %s, want %s", s+"\n", plain, got, want)
				}
			}
		}
	}
}

// speller writes parts by chance, spelt as they may be, and knows what is to be made of them.
type speller struct {
	r    *rand.Rand
	bash bool
	out  []byte
}

func (w *speller) say(s string)           { w.out = append(w.out, s...) }
func (w *speller) any(l ...string) string { return l[w.r.Intn(len(l))] }

// octets writes octets of a set as one text.
func (w *speller) octets(set string, quoted bool) []api.Part {
	var s string
	for range 1 + w.r.Intn(3) {
		s += w.any(strings.Split(set, "")...)
	}
	w.say(s)
	return []api.Part{{Kind: text, Text: s, Quoted: quoted}}
}

// parts writes some parts. Lines that go on keep them apart, as $a and b would be $ab.
func (w *speller) parts(way string, deep int) []api.Part {
	var l []api.Part
	for range w.r.Intn(4) {
		if w.free(way) {
			l = append(l, w.free1(way, deep)...)
		} else {
			l = append(l, w.quoted1(way, deep)...)
		}
		w.say("\\\n")
	}
	return joined(l)
}

func (w *speller) free(way string) bool { return strings.Contains("word brace pattern", way) }

func (w *speller) free1(way string, deep int) []api.Part {
	switch n := w.r.Intn(8); {
	case n == 0:
		set := "abc=,.{~[]!#%:^*?"
		if way != "word" {
			set += " \t\n;|&)>"
		}
		return w.octets(set, false)
	case n == 1:
		w.say("'")
		l := w.octets("abc \n;\"$`\\}/", true)
		w.say("'")
		return l
	case n == 2:
		c := w.any(strings.Split("a'\"\\$` ;}/(<#é", "")...)[:1]
		w.say(`\` + c)
		return []api.Part{{Kind: text, Text: c, Quoted: true}}
	case n == 3:
		w.say(`"`)
		l := w.parts("quotes", deep)
		w.say(`"`)
		return orEmpty(l)
	case n == 4 && w.bash:
		s := w.any("", "a", "a'b", "\n\t\\", "\xff\x01 ;}/\"")
		code, _ := ansi.Encode(s)
		w.say("$'" + code + "'")
		return []api.Part{{Kind: text, Text: s, Op: "ansi", Quoted: true}}
	case n == 5 && w.bash:
		return w.list("<(", api.Part{Kind: file})
	case n == 6:
		w.say("$")
		return []api.Part{{Kind: text, Text: "$", Quoted: true}}
	}
	return w.dollar(false, deep)
}

func (w *speller) quoted1(way string, deep int) []api.Part {
	switch w.r.Intn(4) {
	case 0:
		set := "abc '<(>)#;|&\n\t~/*"
		switch way {
		case "quotes":
			set += "}"
		case "lines":
			set += "}\""
		}
		return w.octets(set, true)
	case 1:
		code, s := `\`+w.any("$", "\\", "`"), ""
		s = code[1:]
		if way == "lines" && w.r.Intn(2) == 0 {
			code, s = `\"`, `\"`
		} else if w.r.Intn(3) == 0 {
			code, s = `\a`, `\a`
		}
		w.say(code)
		return []api.Part{{Kind: text, Text: s, Quoted: true}}
	}
	return w.dollar(true, deep)
}

func (w *speller) list(ahead string, p api.Part) []api.Part {
	w.say(ahead)
	p.At = len(w.out)
	p.Text = w.any("", "a", " a; b\n", "a (b) $(c)", "')' \"(\" \\)", "a \"$(b ')')\"", "# a\n", "((1))", " ( ) ")
	if strings.HasPrefix(p.Text, "(") {
		p.Text = " " + p.Text
	}
	w.say(p.Text + ")")
	return []api.Part{p}
}

func (w *speller) sum() api.Sum {
	s := w.any("", "1", " x + 1 ", "(1+(2))*3", "a?b:c", "(x=2,y)", "$x<<2", "a ? b ? c : d : e", "\n7")
	w.say(s)
	x, _, _ := arith.Parse(s, w.bash)
	return x
}

func (w *speller) dollar(quoted bool, deep int) []api.Part {
	p := api.Part{Kind: parameter, Quoted: quoted}
	switch n := w.r.Intn(6); {
	case n == 0:
		p.Name = w.any("a", "_b1", "1", "@", "*", "#", "?", strings.Repeat("n", api.MaxName))
		w.say("$" + p.Name)
		return []api.Part{p}
	case n == 1:
		return w.list("$(", api.Part{Kind: list, Quoted: quoted})
	case n == 2:
		w.say("$((")
		p = api.Part{Kind: sum, Quoted: quoted, Sums: []api.Sum{w.sum()}}
		w.say("))")
		return []api.Part{p}
	case n == 3:
		p.Name, p.Op = w.any("a", "_b1", "1", "20", "@", "*", "#", "?"), "len"
		w.say("${#" + p.Name)
		if w.bash && p.Name[0] > '@' && w.r.Intn(2) == 0 {
			p.Op = "len[@]"
			w.say("[@]")
		}
		w.say("}")
		return []api.Part{p}
	}
	p.Name = w.any("a", "_b1", "1", "20", "@", "*", "?", strings.Repeat("n", api.MaxName))
	w.say("${" + p.Name)
	if deep < 4 {
		w.op(&p, deep+1)
	}
	w.say("}")
	return []api.Part{p}
}

func (w *speller) op(p *api.Part, deep int) {
	ops := strings.Fields(":- - := = :? ? :+ + # ## % %%")
	if w.bash {
		ops = append(ops, strings.Fields("/ // / // : [ [@] [*] ^ ^^ , ,,")...)
	}
	p.Op = w.any(ops...)
	w.say(p.Op)
	inner := "brace"
	if p.Quoted {
		inner = "both"
	}
	switch p.Op {
	case "[@]", "[*]", "^", "^^", ",", ",,":
	case "[":
		p.Op, p.Sums = "[]", []api.Sum{w.sum()}
		w.say("]")
	case ":":
		w.say(" ") // or - behind it would be :-
		p.Sums = []api.Sum{w.sum()}
		if w.r.Intn(2) == 0 {
			w.say(":")
			p.Sums = append(p.Sums, w.sum())
		}
	case "/", "//":
		w.say("\\\n") // or / behind it would be //
		p.Word = w.parts("pattern", deep)
		if w.r.Intn(2) == 0 {
			w.say("/")
			p.More = w.parts(inner, deep)
		}
	case "#", "##", "%", "%%":
		w.say("\\\n")
		p.Word = w.parts("brace", deep)
	default:
		p.Word = w.parts(inner, deep)
	}
}

// TestSpelt: P13.1, words by chance, that are what they were made of; and with something left out, doubled or changed what the model says.
func TestSpelt(t *testing.T) {
	r := rand.New(rand.NewSource(13))
	met := map[string]int{}
	for i := range 30000 {
		w := speller{r: r, bash: i%2 == 0}
		w.say(w.any("", "a ;", "'"))
		at := len(w.out)
		l := w.parts("word", 0)
		s := string(w.out)
		end := w.any("", " ", ";", "\n", ")", ">a")
		want := told(api.Word{Parts: l}, len(s), api.OK)
		if got := told(Word(s+end, at, w.bash)); got != want {
			t.Fatalf("P13.1: Word(%q, %d, %t): %s, want %s", s+end, at, w.bash, got, want)
		}
		for _, p := range l {
			met[fmt.Sprint(p.Kind, p.Op)]++
		}
		wrongs(t, r, s+end, at, w.bash)
	}
	for _, what := range strings.Fields("1 1ansi 2 2len 2len[@] 2:- 2- 2:= 2= 2:? 2? 2:+ 2+ 2# 2## 2% 2%% 2/ 2// 2: 2[] 2[@] 2[*] 2^ 2^^ 2, 2,, 3 4 5") {
		if met[what] < 50 {
			t.Errorf("P13.1: of %s there were %d", what, met[what])
		}
	}
}

// wrongs changes a word a little.
func wrongs(t *testing.T, r *rand.Rand, s string, at int, bash bool) {
	t.Helper()
	const odd = "${}()[]'\"\\`#:/a1@?<- \n;"
	bad := 0
	for range 3 {
		if len(s) == 0 {
			return
		}
		i := r.Intn(len(s))
		c := string(odd[r.Intn(len(odd))])
		for _, other := range []string{s[:i] + s[i+1:], s[:i] + c + s[i:], s[:i] + c + s[i+1:], s[:i]} {
			held(t, other, at, bash, &bad)
			held(t, other, r.Intn(len(s)), !bash, &bad)
		}
	}
}

// TestSpeltLines: P13.1, likewise of heredocs.
func TestSpeltLines(t *testing.T) {
	r := rand.New(rand.NewSource(14))
	for i := range 6000 {
		w := speller{r: r, bash: i%2 == 0}
		w.say(w.any("", "a\n", "'"))
		at := len(w.out)
		l := w.parts("lines", 0)
		w.say("a\n")
		l = joined(append(l, api.Part{Kind: text, Text: "a\n", Quoted: true}))
		s := string(w.out)
		rest := w.any("EOF", "EOF\n", "EOF\nb\nEOF\n")
		want := told(api.Word{Parts: l}, len(s)+min(4, len(rest)), api.OK)
		if got := told(Heredoc(s+rest, at, "EOF", false, w.bash)); got != want {
			t.Fatalf("P13.1: Heredoc(%q, %d, EOF, false, %t): %s, want %s", s+rest, at, w.bash, got, want)
		}
		want = told(api.Word{Parts: []api.Part{{Kind: text, Text: s[at:], Quoted: true}}}, len(s)+min(4, len(rest)), api.OK)
		if got := told(Heredoc(s+rest, at, "EOF", true, w.bash)); got != want {
			t.Fatalf("P13.1: Heredoc(%q, %d, EOF, true, %t): %s, want %s", s+rest, at, w.bash, got, want)
		}
	}
}

// TestAnything: P1, P3, P13.1, texts of any octets at any place: an answer, the same one again, and what the model says.
func TestAnything(t *testing.T) {
	r := rand.New(rand.NewSource(15))
	const odd = "${}()[]'\"\\`#:/a1@?<- \n;$${'\"E\x00\xff"
	bad := 0
	for range 40000 {
		b := make([]byte, r.Intn(30))
		for i := range b {
			b[i] = odd[r.Intn(len(odd))]
			if r.Intn(20) == 0 {
				b[i] = byte(r.Intn(256))
			}
		}
		s, at, bash, plain := string(b), r.Intn(len(b)+1), r.Intn(2) == 0, r.Intn(4) == 0
		held(t, s, at, bash, &bad)
		n, e := Closed(s, at)
		m, f := slowClosed(s, at)
		lines := strings.ReplaceAll(s, " ", "\nE")
		one, two := told(Heredoc(lines, at, "E", plain, bash)), slowHeredoc(lines, at, "E", plain, bash)
		if Space(s, at) != slowSpace(s, at) || Operator(s, at, bash) != slowOperator(s, at, bash) || n != m || e != f || one != two {
			t.Fatalf("P13.1: %q, %d, %t, %t: %d, %d, want %d, %d; %s, want %s", s, at, bash, plain, n, e, m, f, one, two)
		}
	}
}
