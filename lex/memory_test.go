package lex

import (
	"slices"
	"strings"
	"testing"
	"time"
	"unsafe"

	"cowrie/api"
)

// shares: does a lie in b's memory? Texts of one octet are left out, as Go keeps one of each.
func shares(a, b string) bool {
	if len(a) < 2 || len(b) < 2 {
		return false
	}
	at, from := uintptr(unsafe.Pointer(unsafe.StringData(a))), uintptr(unsafe.Pointer(unsafe.StringData(b)))
	return at >= from && at < from+uintptr(len(b)) || from >= at && from < at+uintptr(len(a))
}

// apart asks that no two of the texts lie in one memory.
func apart(t *testing.T, what string, l ...string) {
	t.Helper()
	for i, a := range l {
		for _, b := range l[i+1:] {
			if shares(a, b) {
				t.Errorf("P13.3: %s: %q and %q are in one memory", what, a, b)
			}
		}
	}
}

// all: all texts of parts, but those of sums' operators, which are arith's.
func all(l []api.Part) []string {
	var out []string
	var names func(x api.Sum)
	names = func(x api.Sum) {
		out = append(out, x.Name, x.Op)
		for _, k := range x.Kids {
			names(k)
		}
	}
	for _, p := range l {
		out = append(out, p.Text, p.Name, p.Op)
		out = append(append(out, all(p.Word)...), all(p.More)...)
		for _, x := range p.Sums {
			names(x)
		}
	}
	return out
}

// spoil writes over all that parts have, and the room behind them.
func spoil(l []api.Part) {
	l = l[:cap(l)]
	for i := range l {
		spoil(l[i].Word)
		spoil(l[i].More)
		for j := range l[i].Sums[:cap(l[i].Sums)] {
			l[i].Sums[:cap(l[i].Sums)][j] = api.Sum{Op: "#"}
		}
		l[i] = api.Part{Kind: 9, Text: "#"}
	}
}

// TestMemory: P13.3, no answer shares memory with the text, with itself or with another one.
func TestMemory(t *testing.T) {
	for _, s := range []string{
		"aaaa", "'aaaa'", "aa'bb'cc", `\a\b"cc$dd"$ee`, "${aa:-bb cc}", `"${aa:-bb}${cc##dd}"`, "${#aa}${#aa[@]}", "${aa[@]}${aa[*]}${aa[bb+cc]}", "${aa:bb+cc:dd-ee}", "${aa//bb/cc}${aa^^}${aa,,}", "$(aa bb)<(cc dd)", "$((aa + bb))", "$'aa'$'bb\\n'", "${aa-${bb-cc$dd}ee}", "", "${}", "'aa",
	} {
		for _, bash := range []bool{false, true} {
			text := strings.Clone(s)
			one, n, e := Word(text, 0, bash)
			two, m, f := Word(text, 0, bash)
			want := told(two, m, f)
			if told(one, n, e) != want {
				t.Errorf("P3: Word(%q): %s, %s", s, told(one, n, e), want)
			}
			apart(t, "Word of "+s, slices.Concat([]string{text}, all(one.Parts), all(two.Parts))...)
			spoil(one.Parts)
			if told(two, m, f) != want || text != s {
				t.Errorf("P13.3: two answers of Word(%q) are in one memory: %s", s, told(two, m, f))
			}
			for _, plain := range []bool{false, true} {
				text = s + "\nEE\n"
				one, n, e = Heredoc(text, 0, "EE", plain, bash)
				two, m, f = Heredoc(text, 0, "EE", plain, bash)
				want = told(two, m, f)
				apart(t, "Heredoc of "+s, slices.Concat([]string{text}, all(one.Parts), all(two.Parts))...)
				spoil(one.Parts)
				if told(two, m, f) != want || text != s+"\nEE\n" {
					t.Errorf("P13.3: two answers of Heredoc(%q) are in one memory: %s", s, told(two, m, f))
				}
			}
		}
	}
	for _, op := range strings.Fields(";; && || >> >& << <<< &>") {
		apart(t, "Operator of "+op, op, Operator(op, 0, true), Operator(op, 0, true))
	}
}

// TestMemoryAsked: P13.3, what is asked of a word.
func TestMemoryAsked(t *testing.T) {
	for _, l := range [][]api.Part{{{Kind: 1, Text: "aaaa"}}, {{Kind: 1, Text: "aaaa"}, {Kind: 1, Text: ""}}, {{Kind: 1, Text: "aa"}, {Kind: 1, Text: "bb", Quoted: true}}, {{Kind: 1, Text: "aaaa"}, {Kind: 2, Name: "b"}}} {
		w := api.Word{Parts: slices.Clone(l)}
		one, _ := Literal(w)
		two, _ := Literal(w)
		apart(t, "Literal, Text", append(all(w.Parts), one, two, Text(w), Text(w))...)
		if Quoted(w); shape(w.Parts) != shape(l) {
			t.Error("P13.3: a word was changed:", shape(w.Parts))
		}
	}
}

// TestLarge: P1, what is large ends soon.
func TestLarge(t *testing.T) {
	from := time.Now()
	for _, piece := range []string{"a", "'", `"`, `\`, "$", "${", "${a-", "${a:", "${a/", "${#", "$(", "$((", "<(", "(", ")", "`", "'a'", `"a"`, `"$a"`, "$a", "${a-b}", "${a:1}", "$(a)", "$((1))", "$'a'", "\\\n", "#", " ", "\n", "a\n", `"${a-`, `"${a#"`, "1+", "[", "${a["} {
		s := strings.Repeat(piece, 1<<16)
		for _, bash := range []bool{false, true} {
			for _, ahead := range []string{"", `"`, "${a-", "$((", "${a:", "$'", "$("} {
				Word(ahead+s, 0, bash)
			}
			Heredoc(s+"\nEE", 0, "EE", false, bash)
			Heredoc(s, 0, "EE", true, bash)
			Operator(s, len(s)-1, bash)
		}
		Closed(s, 0)
		Space(s, 0)
		Space("#"+s, 0)
	}
	w := api.Word{Parts: slices.Repeat([]api.Part{{Kind: 1, Text: "ab"}}, 1<<20)}
	if s, ok := Literal(w); len(s) != 2<<20 || !ok || Quoted(w) || len(Text(w)) != 2<<20 {
		t.Error("P13.2: a large word:", len(s), ok)
	}
	if d := time.Since(from); d > 60*time.Second {
		t.Error("P1: what is large takes", d)
	}
}
