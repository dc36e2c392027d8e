package texts

import (
	"math/rand"
	"testing"
)

// TestSet: P11.2, octets, spans, escapes, and what is none.
func TestSet(t *testing.T) {
	for _, c := range [][2]string{
		{"", ""}, {"a", "a"}, {"abc", "abc"}, {"aba", "aba"}, {"a-e", "abcde"}, {"a-a", "a"}, {"a-cx-z", "abcxyz"}, {"a-cc-e", "abccde"}, {"0-9", "0123456789"}, {"a-bb", "abb"},
		{"-", "-"}, {"--", "--"}, {"---", "-"}, {"----", "--"}, {"--/", "-./"}, {"+--", "+,-"}, {"a-", "a-"}, {"-a", "-a"}, {"-a-c", "-abc"}, {"a-c-e", "abc-e"}, {"a-c-", "abc-"}, {"a-b-c-d", "ab-cd"}, {"a-c--/", "abc-./"}, {"ab-d", "abcd"}, {"-a-", "-a-"},
		// escapes go ahead of spans
		{`\n`, "\n"}, {`\\`, `\`}, {`\t-\r`, "\t\n\v\f\r"}, {`\101-\103`, "ABC"}, {`a\055c`, "abc"}, {`a-\0c`, "abc"}, {`a-\0`, "a-"}, {`\0`, ""}, {`\400`, ""}, {`a\0-\0c`, "abc"}, {`\\-a`, `\]^_` + "`a"}, {`\-a`, `\]^_` + "`a"}, {`\q`, `\q`}, {`\`, `\`}, {`a\`, `a\`}, {`\08`, "8"}, {`\1018`, "A8"}, {`\7777`, "\xff7"}, {`\\101`, `\101`},
		// no other sign is special
		{"[a-c]", "[abc]"}, {"^a", "^a"}, {"!a", "!a"}, {"[:a:]", "[:a:]"}, {"*?", "*?"}, {"a - c", "a c"},
		{"é", "\xc3\xa9"}, {"\xfe-\xff", "\xfe\xff"}, {"\x00-\x02", "\x00\x01\x02"}, {"\x00-\xff", all()}, {"\x00", "\x00"}, {"a\n-\vb", "a\n\vb"}, {"\xff-\xff", "\xff"}, {"\x7f-\x81", "\x7f\x80\x81"},
	} {
		if s, ok := Set(c[0]); s != c[1] || !ok {
			t.Errorf("P11.2: Set(%q): %q, %t, want %q", c[0], s, ok, c[1])
		}
	}
	for _, s := range list("b-a", "z-a", "a-Z", "9-0", "ab-a", "a-cz-y", "a-c-b-a", "\xff-\x00", "\x80-\x7f", `b-\141`, `\\-A`, `\-A`, "--a-b-a", "c-\x00", `b\055a`, "b-ab", "--,", "a---", "é-a") {
		if got, ok := Set(s); got != "" || ok {
			t.Errorf("P11.2: Set(%q) is none: %q, %t", s, got, ok)
		}
	}
	if s, ok := Set("--a"); !ok || s != all()['-':'a'+1] {
		t.Errorf("P11.2: Set of a span from - on: %q, %t", s, ok)
	}
}

// TestSpans: P11.2, a span between any two octets.
func TestSpans(t *testing.T) {
	for a := range 256 {
		for b := range 256 {
			s, ok := Set(octet(a) + "-" + octet(b))
			if a > b && (ok || s != "") {
				t.Fatalf("P11.2: a span from %d to %d: %q, %t", a, b, s, ok)
			}
			if a <= b && (!ok || s != all()[a:b+1]) {
				t.Fatalf("P11.2: a span from %d to %d: %q, %t", a, b, s, ok)
			}
		}
	}
}

// TestTranslate: P11.2, ordinary sets, shorter and longer ones, those that are none.
func TestTranslate(t *testing.T) {
	for _, c := range [][4]string{
		{"abc", "a-c", "A-C", "ABC"}, {"hello", "l", "L", "heLLo"}, {"abcd", "b-c", "x", "axxd"}, {"abcd", "a-d", "xy", "xyyy"}, {"abcd", "ab", "xyz", "xycd"}, {"ab", "ab", "ba", "ba"}, {"a b\n", ` \n`, "_.", "a_b."},
		{"aab", "aba", "xyz", "xxy"}, {"aab", "aab", "xyz", "xxz"}, {"abc", "a-ca-c", "1-6", "123"}, {"a", "aa", "xy", "x"}, // the first place counts
		{"", "a", "b", ""}, {"abc", "", "", "abc"}, {"abc", "", "x", "abc"}, {"abc", `\0`, "", "abc"}, {"abc", `\0`, `\0`, "abc"}, {"", "", "", ""}, {"abc", "x-z", "a", "abc"},
		{"a-b", "-", "_", "a_b"}, {"a-b", "a-", "x_", "x_b"}, {`a\b`, `\\`, "/", "a/b"}, {"a/b", "/", `\\`, `a\b`}, {"a\x00b", "\x00", "0", "a0b"}, {"a0b", "0", "\x00", "a\x00b"}, {"é", "\xc3\xa9", "ab", "ab"}, {"\xff\xfe", "\xfe-\xff", "ab", "ba"}, {"aé", "a", "\xff", "\xffé"},
		{"a\nb\nc", `\n`, ",", "a,b,c"}, {"abc", "c-c", `\101`, "abA"}, {all(), "\x00-\xff", "\x01-\xff", all()[1:] + "\xff"},
	} {
		if s, ok := Translate(c[0], c[1], c[2]); s != c[3] || !ok {
			t.Errorf("P11.2: Translate(%q, %q, %q): %q, %t, want %q", c[0], c[1], c[2], s, ok, c[3])
		}
	}
	for _, c := range [][3]string{{"abc", "a", ""}, {"abc", "x", ""}, {"", "a", ""}, {"abc", "a-c", `\0`}, {"abc", "c-a", "x"}, {"abc", "a", "c-a"}, {"", "c-a", ""}, {"abc", "", "c-a"}, {"abc", "c-a", "c-a"}, {"abc", "c-a", ""}, {"", "", "b-a"}} {
		if s, ok := Translate(c[0], c[1], c[2]); s != "" || ok {
			t.Errorf("P11.2: Translate(%q, %q, %q) is none: %q, %t", c[0], c[1], c[2], s, ok)
		}
	}
}

// TestDelete: P11.2.
func TestDelete(t *testing.T) {
	for _, c := range [][3]string{
		{"abcabc", "b", "acac"}, {"abc", "a-c", ""}, {"abc", "", "abc"}, {"abc", `\0`, "abc"}, {"abc", "xyz", "abc"}, {"", "a", ""}, {"", "", ""}, {"a-b", "-", "ab"}, {"a-b", "b-", "a"}, {"a\nb\n", `\n`, "ab"}, {`a\b`, `\`, "ab"}, {`a\nb`, `\\`, "anb"}, {"aAb", "A-Z", "ab"}, {"a\x00b", "\x00", "ab"}, {"é", "\xa9", "\xc3"}, {"a1b2", "0-9", "ab"}, {"aabb", "aa", "bb"}, {all(), "\x01-\xff", "\x00"}, {all(), "\x00-\xfe", "\xff"},
	} {
		if s, ok := Delete(c[0], c[1]); s != c[2] || !ok {
			t.Errorf("P11.2: Delete(%q, %q): %q, %t, want %q", c[0], c[1], s, ok, c[2])
		}
	}
	for _, set := range list("c-a", "ab-a", `b-\141`) {
		for _, s := range list("", "abc") {
			if got, ok := Delete(s, set); got != "" || ok {
				t.Errorf("P11.2: Delete(%q, %q) is none: %q, %t", s, set, got, ok)
			}
		}
	}
}

// holdSets holds all that is asked of two sets and a text against the slow ones.
func holdSets(t *testing.T, s, from, to string) {
	t.Helper()
	got, ok := Set(from)
	if want, so := slowSet(from); got != want || ok != so {
		t.Errorf("P11.2: Set(%q): %q, %t, want %q, %t", from, got, ok, want, so)
	}
	got, ok = Delete(s, from)
	if want, so := slowDelete(s, from); got != want || ok != so {
		t.Errorf("P11.2: Delete(%q, %q): %q, %t, want %q, %t", s, from, got, ok, want, so)
	}
	got, ok = Translate(s, from, to)
	if want, so := slowTranslate(s, from, to); got != want || ok != so {
		t.Errorf("P11.2: Translate(%q, %q, %q): %q, %t, want %q, %t", s, from, to, got, ok, want, so)
	}
}

// TestSetsAll: P11.2, all short sets, also as two.
func TestSetsAll(t *testing.T) {
	for _, set := range append(spans("abc-", 6), spans(`a-\01`, 5)...) {
		holdSets(t, `abc-\01`, set, "xyz")
	}
	short := spans("abc-", 3)
	for _, from := range short {
		for _, to := range short {
			holdSets(t, "dcba-", from, to)
		}
	}
}

// TestSetsAny: P11.2, sets and texts by chance.
func TestSetsAny(t *testing.T) {
	r := rand.New(rand.NewSource(11))
	for range 20000 {
		holdSets(t, anyLines(r)+anySet(r), anySet(r), anySet(r))
	}
}
