package glob

import (
	"slices"
	"strings"
	"testing"
	"time"
	"unsafe"

	"cowrie/api"
)

// pattern reads a pattern as it is written here: an octet behind a ~ is quoted.
func pattern(s string) []api.Char {
	var p []api.Char
	quoted := false
	for i := 0; i < len(s); i++ {
		if s[i] == '~' && !quoted {
			quoted = true
			continue
		}
		p = append(p, api.Char{C: s[i], Q: quoted})
		quoted = false
	}
	return p
}

// bare: is it that octet, unquoted?
func bare(p []api.Char, i int, c byte) bool { return i < len(p) && !p[i].Q && p[i].C == c }

// among reads a set at the beginning of p by the document's words: what is in it, and what it takes of p, 0 if it is none.
func among(p []api.Char) (in [256]bool, width int) {
	at, not := 1, false
	if bare(p, 1, '!') || bare(p, 1, '^') {
		at, not = 2, true
	}
	end := at + 1
	for end < len(p) && !bare(p, end, ']') {
		end++
	}
	if end >= len(p) {
		return in, 0
	}
	for at < end {
		if at+2 < end && bare(p, at+1, '-') {
			for c := int(p[at].C); c <= int(p[at+2].C); c++ {
				in[c] = true
			}
			at += 3
			continue
		}
		in[p[at].C] = true
		at++
	}
	for c := range in {
		in[c] = in[c] != not
	}
	return in, end + 1
}

// whole matches as slowly as the words say it: by every way that there is.
func whole(p []api.Char, s string) bool {
	if len(p) == 0 {
		return s == ""
	}
	if bare(p, 0, '*') {
		for n := 0; n <= len(s); n++ {
			if whole(p[1:], s[n:]) {
				return true
			}
		}
		return false
	}
	if bare(p, 0, '[') {
		if in, width := among(p); width > 0 {
			return s != "" && in[s[0]] && whole(p[width:], s[1:])
		}
	}
	return s != "" && (bare(p, 0, '?') || p[0].C == s[0]) && whole(p[1:], s[1:])
}

// slowPrefix and slowSuffix try all lengths.
func slowPrefix(p []api.Char, s string, longest bool) int {
	best := -1
	for n := 0; n <= len(s); n++ {
		if whole(p, s[:n]) && (best < 0 || longest) {
			best = n
		}
	}
	return best
}

func slowSuffix(p []api.Char, s string, longest bool) int {
	best := -1
	for n := 0; n <= len(s); n++ {
		if whole(p, s[len(s)-n:]) && (best < 0 || longest) {
			best = n
		}
	}
	return best
}

// chance makes the same texts of the octets of odd in every run.
func chance(odd string, count, longest int) []string {
	var l []string
	seed := uint32(11)
	for n := range count {
		b := make([]byte, n%(longest+1))
		for i := range b {
			seed = seed*1664525 + 1013904223
			b[i] = odd[int(seed>>8)%len(odd)]
		}
		l = append(l, string(b))
	}
	return l
}

// TestMatch: P3.1, ordinary patterns and the edges of the chapter's words; ~ quotes.
func TestMatch(t *testing.T) {
	const none = "none"
	cases := []struct{ p, yes, no string }{ // texts, cut at commas
		{"a*c", "abbc,ac,acc,abcabc", "abb,a,c,bac,acb,ab"},
		{"", "", "a"},
		{"*", ",a,ab,/.,\xff\n", none},
		{"**", ",a", none},
		{"?", "a,/,.,\n,\xff,*,?", "ab,\xc3\xa9"},
		{"*?", "a,ab", ""},
		{"?*?", "aa,abc", "a,"},
		{"abc", "abc", "ab,abcd,xabc,ABC"},
		{"*.txt", ".txt,a.txt,a.txt.txt", "a.txt.,txt,a.tx"},
		{"a*b*c", "abc,aXbYc,abbcc,abcbc", "acb,ab,bc,abcb"},
		{"*ab*ab*", "abab,xabxabx", "ab,aab,aba"},
		{"~*", "*", ",a,**"},
		{"~?", "?", "a"},
		{"~[a]", "[a]", "a"},
		{"~a~*~b", "a*b", "ab,aXb"},
		{"\\*", "\\,\\a,\\*", "*"},
		{"[abc]", "a,b,c", "d,,ab,[abc]"},
		{"[a-c]", "a,b,c", "d,-,`"},
		{"[c-a]", none, "a,b,c,-"},
		{"[!c-a]", "a,b,c,-", "ab"},
		{"[a-a]", "a", "b,-"},
		{"[!a-c]", "d,-,!,\xff,\n,/", "a,b,c,dd"},
		{"[^a-c]", "d,-,^", "a,b,c"},
		{"[~!a]", "!,a", "b,~"},
		{"[~^a]", "^,a", "b"},
		{"[a!]", "a,!", "b"},
		{"[a^]", "a,^", "b"},
		{"[!!]", "a,^", "!"},
		{"[!^]", "a,!", "^"},
		{"[]]", "]", "[,a,[]]"},
		{"[]a]", "],a", "[,b"},
		{"[!]]", "a,[", "]"},
		{"[!]a]", "b,[", "],a"},
		{"[^]a]", "b,[", "],a"},
		{"[a]]", "a]", "a,]"},
		{"[]", "[]", "],["},
		{"[!]", "[!]", "!,a"},
		{"[^]", "[^]", "^"},
		{"[", "[", "a,"},
		{"[a", "[a", "a"},
		{"[a-", "[a-", "a"},
		{"[*", "[,[a,[ab", "a,"},
		{"[?", "[a,[[", "[,a"},
		{"a[", "a[", "a"},
		{"[[]", "[", "],[["},
		{"[[a]", "[,a", "]"},
		{"[a~]b]", "a,],b", "a],ab]"},
		{"[~]]", "]", "~,]]"},
		{"[~]a]", "],a", "b"},
		{"[a~]", "[a]", "a,]"},
		{"[*]", "*", "a,"},
		{"[?]", "?", "a"},
		{"[*?[]", "*,?,[", "a,]"},
		{"[-a]", "-,a", "b,`"},
		{"[a-]", "-,a", "b,z"},
		{"[!-a]", "b,!", "-,a"},
		{"[!a-]", "b,!", "-,a"},
		{"[-]", "-", "a"},
		{"[--]", "-", "a,."},
		{"[---]", "-", "a,.,+"},
		{"[--a]", "-,.,9,A,a", "b,+"},
		{"[%--]", "%,&,+,-", ".,$"},
		{"[a-c-e]", "a,b,c,-,e", "d"},
		{"[a-c-]", "a,b,c,-", "d"},
		{"[a-c-e-g]", "a,b,c,-,e,f,g", "d,h"},
		{"[a-c--0]", "a,b,c,-,.,/,0", "1,d"},
		{"[a~-c]", "a,-,c", "b"},
		{"[~--a]", "-,.,9,a", "+,b"},
		{"[+-~-]", "+,-", ".,*"},
		{"[~a-~c]", "a,b,c", "d,-,~"},
		{"[]-a]", "],^,_,`,a", "-,\\,b"},
		{"[a-~]]", none, "a,],b,z,-"},
		{"[A-~]]", "A,],Z,\\", "^,a"},
		{"[!-~]]", "a,!", "-,]"},
		{"[[:a:]]", "[],:],a]", "a,[,b]"},
		{"[\x00-\xff]", "\x00,\xff,a", "ab"},
		{"[\x80-\xff]", "\x80,\xff", "\x7f,a"},
		{"[é]", "\xc3,\xa9", "é"},
		{"[a]b", "ab", "a,b,aab"},
		{"[ab][cd]", "ac,ad,bc,bd", "ab,a,acd"},
		{"x[ab]*[cd]y", "xacy,xbZZdy", "xcy,xacyz"},
		{"\x00", "\x00", "a"},
		{"{ab}", "{ab}", "a,b"},
	}
	for _, c := range cases {
		p := pattern(c.p)
		for _, s := range strings.Split(c.yes, ",") {
			if c.yes != none && !Match(p, s) {
				t.Errorf("P3.1: Match(%q, %q): false", c.p, s)
			}
		}
		for _, s := range strings.Split(c.no, ",") {
			if c.no != none && Match(p, s) {
				t.Errorf("P3.1: Match(%q, %q): true", c.p, s)
			}
		}
	}
	if !Match(nil, "") || !Match([]api.Char{}, "") || Match(nil, "a") {
		t.Error("P3.1: Match of an empty pattern")
	}
}

// TestSets: P3.1, every octet of sets that are made of odd ones.
func TestSets(t *testing.T) {
	for _, inner := range append(chance("a-c]!^[~*b", 4000, 8), "", "a-c", "!", "]-a") {
		p := pattern("[" + inner + "]")
		for _, c := range "abc]!^[-~*_`d\x00" {
			s := string(c)
			if got, want := Match(p, s), whole(p, s); got != want {
				t.Fatalf("P3.1: Match(%q, %q): %t", "["+inner+"]", s, got)
			}
		}
	}
	for c := range 256 {
		s := string([]byte{byte(c)})
		if !Match(pattern("?"), s) || !Match(pattern("[\x00-\xff]"), s) || Match(pattern("[!\x00-\xff]"), s) || !Match(Plain(s, true), s) {
			t.Errorf("P3.1: octet %d", c)
		}
		if in := c >= 'b' && c <= 'y'; Match(pattern("[b-y]"), s) != in || Match(pattern("[!b-y]"), s) == in {
			t.Errorf("P3.1: octet %d of a span", c)
		}
	}
}

// TestSpecial: P3.1.
func TestSpecial(t *testing.T) {
	for _, s := range []string{"*", "?", "[", "a*", "?a", "a[b", "[a]", "~**", "~a~?["} {
		if !Special(pattern(s)) {
			t.Errorf("P3.1: Special(%q): false", s)
		}
	}
	for _, s := range []string{"", "a", "~*", "~?", "~[", "~*~?~[a]", "]", "!", "^", "-", "\\", "{a}", "a]", "\xff"} {
		if Special(pattern(s)) {
			t.Errorf("P3.1: Special(%q): true", s)
		}
	}
	for c := range 256 {
		want := c == '*' || c == '?' || c == '['
		if Special([]api.Char{{C: byte(c)}}) != want || Special([]api.Char{{C: byte(c), Q: true}}) {
			t.Errorf("P3.1: Special of octet %d", c)
		}
	}
	if Special(nil) {
		t.Error("P3.1: Special of none")
	}
}

// TestEnds: P3.1, Prefix and Suffix.
func TestEnds(t *testing.T) {
	cases := []struct {
		p, s                   string
		front, far, back, deep int // shortest and longest from the beginning, then from the end
	}{
		{"", "", 0, 0, 0, 0},
		{"", "abc", 0, 0, 0, 0},
		{"*", "", 0, 0, 0, 0},
		{"*", "abc", 0, 3, 0, 3},
		{"?", "", -1, -1, -1, -1},
		{"?", "abc", 1, 1, 1, 1},
		{"a", "abc", 1, 1, -1, -1},
		{"c", "abc", -1, -1, 1, 1},
		{"abc", "abc", 3, 3, 3, 3},
		{"abcd", "abc", -1, -1, -1, -1},
		{"*/", "a/b/c", 2, 4, -1, -1},
		{"/*", "a/b/c", -1, -1, 2, 4},
		{"*/*", "a/b/c", 2, 5, 2, 5},
		{"a*", "abab", 1, 4, 2, 4},
		{"*b", "abab", 2, 4, 1, 4},
		{"a*b", "abab", 2, 4, 2, 4},
		{"*.*", "x.tar.gz", 2, 8, 3, 8},
		{".*", "x.tar.gz", -1, -1, 3, 7},
		{"[a-c]*", "cab", 1, 3, 1, 3},
		{"~*", "*a*", 1, 1, 1, 1},
		{"*~*", "*a*", 1, 3, 1, 3},
		{"*a*a*", "xaxaxax", 4, 7, 4, 7},
		{"?*", "abc", 1, 3, 1, 3},
		{"**", "abc", 0, 3, 0, 3},
		{"*x*", "abc", -1, -1, -1, -1},
		{"aa*aa", "aaa", -1, -1, -1, -1},
		{"aa*aa", "aaaaa", 4, 5, 4, 5},
	}
	for _, c := range cases {
		p := pattern(c.p)
		got := []int{Prefix(p, c.s, false), Prefix(p, c.s, true), Suffix(p, c.s, false), Suffix(p, c.s, true)}
		if want := []int{c.front, c.far, c.back, c.deep}; !slices.Equal(got, want) {
			t.Errorf("P3.1: Prefix and Suffix(%q, %q): %v, want %v", c.p, c.s, got, want)
		}
	}
	if Prefix(nil, "a", true) != 0 || Suffix(nil, "a", false) != 0 {
		t.Error("P3.1: Prefix and Suffix of none")
	}
}

// TestAgainstWords: P3.1, held against the words as they stand, by patterns and texts of odd octets.
func TestAgainstWords(t *testing.T) {
	patterns := chance("ab*?[]!-~", 3000, 9)
	texts := append(chance("ab[]-!", 40, 7), "", "aaaa", "abab", "baab")
	for _, w := range patterns {
		p := pattern(w)
		for _, s := range texts {
			if got, want := Match(p, s), whole(p, s); got != want {
				t.Fatalf("P3.1: Match(%q, %q): %t", w, s, got)
			}
			for _, longest := range []bool{false, true} {
				if got, want := Prefix(p, s, longest), slowPrefix(p, s, longest); got != want {
					t.Fatalf("P3.1: Prefix(%q, %q, %t): %d, want %d", w, s, longest, got, want)
				}
				if got, want := Suffix(p, s, longest), slowSuffix(p, s, longest); got != want {
					t.Fatalf("P3.1: Suffix(%q, %q, %t): %d, want %d", w, s, longest, got, want)
				}
			}
		}
	}
}

// TestEnding: P1, what is long ends, and soon.
func TestEnding(t *testing.T) {
	begin := time.Now()
	n := api.MaxText
	text := strings.Repeat("a", n)
	for _, p := range []string{
		strings.Repeat("*a", n) + "b", strings.Repeat("*", n) + "b", strings.Repeat("[", n), strings.Repeat("[!", n),
		strings.Repeat("?*", n/2) + "b", "*" + strings.Repeat("a", n/2) + "b", "[" + strings.Repeat("b-c", n) + "]*", strings.Repeat("[]", n),
	} {
		q := pattern(p)
		if Match(q, text) || Prefix(q, text, true) >= 0 || Suffix(q, text, false) >= 0 {
			t.Errorf("P3.1: Match(%.20q ..)", p)
		}
	}
	for _, p := range []string{strings.Repeat("*a", n), strings.Repeat("*", 3*n), strings.Repeat("?", n), "*" + strings.Repeat("[!b]", n-1), text} {
		if !Match(pattern(p), text) {
			t.Errorf("P3.1: Match(%.20q ..)", p)
		}
	}
	if d := time.Since(begin); d > 30*time.Second {
		t.Errorf("P1: long patterns took %v", d)
	}
}

// TestTold: P3.1, Plain, Text and Source.
func TestTold(t *testing.T) {
	cases := []struct{ p, text, source string }{
		{"", "", ""},
		{"abc", "abc", "abc"},
		{"~a~b", "ab", "ab"},
		{"a*b", "a*b", "a*b"},
		{"a~*b", "a*b", `a\*b`},
		{"~*~?~[~]~!~^~-~\\", `*?[]!^-\`, `\*\?\[\]\!\^\-\\`},
		{`*?[]!^-\`, `*?[]!^-\`, `*?[]!^-\`},
		{"~$~'~\"~ ~`~/~.~{~+~@", "$'\" `/.{+@", "$'\" `/.{+@"},
		{"[a~]]", "[a]]", `[a\]]`},
		{"\x00~\xff", "\x00\xff", "\x00\xff"},
	}
	for _, c := range cases {
		p := pattern(c.p)
		if got := Text(p); got != c.text {
			t.Errorf("P3.1: Text(%q): %q, want %q", c.p, got, c.text)
		}
		if got := Source(p); got != c.source {
			t.Errorf("P3.1: Source(%q): %q, want %q", c.p, got, c.source)
		}
	}
	for c := range 256 {
		octet := string([]byte{byte(c)})
		want := octet
		if strings.IndexByte(`*?[]!^-\`, byte(c)) >= 0 {
			want = `\` + octet
		}
		if got := Source(Plain(octet, true)); got != want {
			t.Errorf("P3.1: Source of a quoted %q: %q", octet, got)
		}
		if got := Source(Plain(octet, false)); got != octet {
			t.Errorf("P3.1: Source of %q: %q", octet, got)
		}
	}
	for _, s := range append(chance("ab*?[]\\\xff\x00é", 200, 20), "", "abc") {
		for _, quoted := range []bool{false, true} {
			p := Plain(s, quoted)
			if len(p) != len(s) || Text(p) != s {
				t.Errorf("P3.1: Plain(%q, %t): %v", s, quoted, p)
			}
			for i := range p {
				if p[i] != (api.Char{C: s[i], Q: quoted}) {
					t.Errorf("P3.1: Plain(%q, %t): %v", s, quoted, p)
				}
			}
		}
	}
	if Text(nil) != "" || Source(nil) != "" || len(Plain("", true)) != 0 {
		t.Error("P3.1: what none tells")
	}
}

// TestQuoted: P3.2, a quoted pattern matches itself alone.
func TestQuoted(t *testing.T) {
	texts := append(chance("ab*?[]!^-\\", 120, 6), "*", "?", "[a]", "[!a]", "[a-c]", "a*c", "[]", "", "\xff", "[[:a:]]")
	for _, s := range texts {
		p := Plain(s, true)
		if Special(p) {
			t.Errorf("P3.2: Special of a quoted %q", s)
		}
		for _, other := range texts {
			if Match(p, other) != (s == other) {
				t.Errorf("P3.2: Match of a quoted %q and %q: %t", s, other, s != other)
			}
		}
		if n := len(s); Prefix(p, s+"x", true) != n || Prefix(p, s+"x", false) != n || Suffix(p, "x"+s, true) != n || Suffix(p, "x"+s, false) != n {
			t.Errorf("P3.2: Prefix and Suffix of a quoted %q", s)
		}
	}
}

// TestMemory: P3.3, arguments stay as they are, answers are new, and nothing is kept.
func TestMemory(t *testing.T) {
	for _, w := range append(chance("ab*?[]!^-~", 300, 9), "[a-c]*~*", "x") {
		p := pattern(w)
		before := slices.Clone(p)
		room := append(p, api.Char{C: 'z'}, api.Char{C: '*'})[:len(p)]
		ask := func() [8]int {
			count := [8]int{Prefix(room, "abab", true), Prefix(room, "abab", false), Suffix(room, "abab", true), Suffix(room, "abab", false)}
			for i, yes := range []bool{Match(room, "abab"), Special(room), Text(room) == Text(before), Source(room) == Source(before)} {
				if yes {
					count[4+i] = 1
				}
			}
			return count
		}
		first := ask()
		if ask() != first || first[6] != 1 || first[7] != 1 {
			t.Errorf("P3.3: %q: another answer to the same question", w)
		}
		if !slices.Equal(room, before) || room[:len(p)+2][len(p)] != (api.Char{C: 'z'}) || room[:len(p)+2][len(p)+1] != (api.Char{C: '*'}) {
			t.Errorf("P3.3: %q: changed", w)
		}
	}
	a, b := Plain("abc", false), Plain("abc", false)
	a[0].C = 'x'
	if Text(b) != "abc" || Text(Plain("abc", false)) != "abc" {
		t.Error("P3.3: Plain shares its answers")
	}
	p := pattern("a~*b")
	for _, tell := range []func([]api.Char) string{Text, Source} {
		s, r := tell(p), tell(p)
		p[0].C = 'z'
		if s != r || s[0] != 'a' || unsafe.StringData(s) == unsafe.StringData(r) {
			t.Error("P3.3: what is told shares its memory")
		}
		p[0].C = 'a'
	}
}
