package texts

import (
	"math"
	"math/rand"
	"slices"
	"strings"
	"testing"
)

// TestHeadAndTail: P11.1, lines as they stand, the edges of n.
func TestHeadAndTail(t *testing.T) {
	for _, c := range []struct {
		s          string
		n          int
		head, tail string
	}{
		{"a\nb\nc\n", 2, "a\nb\n", "b\nc\n"}, {"a\nb\nc", 2, "a\nb\n", "b\nc"}, {"a\nb\nc", 3, "a\nb\nc", "a\nb\nc"}, {"a\nb\nc", 1, "a\n", "c"},
		{"a\nb\n", 9, "a\nb\n", "a\nb\n"}, {"a\nb", 9, "a\nb", "a\nb"}, {"a", 1, "a", "a"}, {"a\n", 1, "a\n", "a\n"},
		{"a\nb\n", 0, "", ""}, {"a\nb\n", -1, "", ""}, {"a\nb\n", math.MinInt, "", ""}, {"a\nb\n", math.MaxInt, "a\nb\n", "a\nb\n"},
		{"", 1, "", ""}, {"", 0, "", ""}, {"", math.MaxInt, "", ""}, {"\n", 1, "\n", "\n"}, {"\n\n\n", 2, "\n\n", "\n\n"}, {"\n\na", 1, "\n", "a"}, {"\n\na", 2, "\n\n", "\na"}, {"a\n\n", 1, "a\n", "\n"},
		{"a\r\nb\r\n", 1, "a\r\n", "b\r\n"}, {"\xff\x00\n\x80", 1, "\xff\x00\n", "\x80"},
	} {
		if s := Head(c.s, c.n); s != c.head {
			t.Errorf("P11.1: Head(%q, %d): %q, want %q", c.s, c.n, s, c.head)
		}
		if s := Tail(c.s, c.n); s != c.tail {
			t.Errorf("P11.1: Tail(%q, %d): %q, want %q", c.s, c.n, s, c.tail)
		}
	}
	for _, s := range append(spans("a\n", 9), spans("ab\n", 5)...) {
		for n := -1; n < 11; n++ {
			if got, want := Head(s, n), slowHead(s, n); got != want {
				t.Errorf("P11.1: Head(%q, %d): %q, want %q", s, n, got, want)
			}
			if got, want := Tail(s, n), slowTail(s, n); got != want {
				t.Errorf("P11.1: Tail(%q, %d): %q, want %q", s, n, got, want)
			}
		}
	}
}

// counted holds Count against what is wanted.
func counted(t *testing.T, s string, want [3]int) {
	t.Helper()
	lines, words, octets := Count(s)
	if got := [3]int{lines, words, octets}; got != want {
		t.Errorf("P11.1: Count(%q): %v, want %v", s, got, want)
	}
}

// TestCount: P11.1, newlines, words, octets; what parts words and what doesn't.
func TestCount(t *testing.T) {
	counted(t, "", [3]int{0, 0, 0})
	counted(t, "a", [3]int{0, 1, 1})
	counted(t, "a\n", [3]int{1, 1, 2})
	counted(t, "a b\nc", [3]int{1, 3, 5})
	counted(t, " a\tb\r\n\n  c\r", [3]int{2, 3, 11})
	counted(t, " \t\r\n", [3]int{1, 0, 4})
	counted(t, "a\vb\fc\x00d\u00a0e\u2028f\u0085g", [3]int{0, 1, 17})
	for c := range 256 {
		words, lines := 1, 0
		if strings.Contains(" \t\n\r", octet(c)) {
			words = 2
		}
		if c == '\n' {
			lines = 1
		}
		counted(t, "a"+octet(c)+"b", [3]int{lines, words, 3})
		counted(t, octet(c), [3]int{lines, 2 - words, 1})
	}
	for _, s := range spans("a \t\n\r\v", 5) {
		counted(t, s, slowCount(s))
	}
}

// TestSort: P11.1, in order by octets, the other way round, each once.
func TestSort(t *testing.T) {
	for _, c := range []struct {
		s                        string
		plain, back, once, count string
	}{
		{"", "", "", "", ""},
		{"\n", "\n", "\n", "\n", "\n"},
		{"b\na\nb\n", "a\nb\nb\n", "b\nb\na\n", "a\nb\n", "a\nb\nb\n"},
		{"b\na", "a\nb\n", "b\na\n", "a\nb\n", "a\nb\n"},
		{"b\n\na\n\n", "\n\na\nb\n", "b\na\n\n\n", "\na\nb\n", "\n\na\nb\n"},
		{"a b\na\na-b\nab\n", "a\na b\na-b\nab\n", "ab\na-b\na b\na\n", "a\na b\na-b\nab\n", "a\na b\na-b\nab\n"},
		{"a\nB\nA\nb\n_\n", "A\nB\n_\na\nb\n", "b\na\n_\nB\nA\n", "A\nB\n_\na\nb\n", "A\nB\n_\na\nb\n"},
		{"z\n\xff\né\n\x00\n", "\x00\nz\né\n\xff\n", "\xff\né\nz\n\x00\n", "\x00\nz\né\n\xff\n", "\x00\nz\né\n\xff\n"},
		{"10\n9\n10\n1\n", "1\n10\n10\n9\n", "9\n10\n10\n1\n", "1\n10\n9\n", "1\n9\n10\n10\n"},
		{"a\r\na\n", "a\na\r\n", "a\r\na\n", "a\na\r\n", "a\na\r\n"},
	} {
		for i, got := range list(Sort(c.s, false, false, false), Sort(c.s, true, false, false), Sort(c.s, false, true, false), Sort(c.s, false, false, true)) {
			if want := list(c.plain, c.back, c.once, c.count)[i]; got != want {
				t.Errorf("P11.1: Sort(%q) number %d: %q, want %q", c.s, i, got, want)
			}
		}
	}
}

// TestSortNumbers: P11.1, first by numbers of any size, then by octets; "one: two" is a line that goes ahead of another.
func TestSortNumbers(t *testing.T) {
	for _, l := range [][]string{
		{"2", "10"}, {"-10", "-2"}, {"-2", "0"}, {"-1", "1"}, {"-1", "a"}, {"a", "1"}, {"", "1"}, {"-1", ""}, {"-3", "2"},
		{"2a", "10"}, {"2 5", "2 6"}, {"1 9", "1 a"}, {"9x", "10x"}, {"1.5", "2"}, {"1.5", "1.6"}, {"1,5", "2"},
		// blanks and tabs ahead
		{" 2", "10"}, {"\t2", " 10"}, {" \t 2", "3"}, {" -2", "-1"}, {"  9", " 10"}, {" 10", "10"}, {"\t1", " 1"},
		// none: 0
		{"\r2", "1"}, {"\v9", "1"}, {"\x009", "1"}, {"a9", "1"}, {"+9", "1"}, {"- 9", "1"}, {"--9", "1"}, {"-1", "- 9"}, {"-1", "--9"}, {"-", "1"}, {"-1", "-"}, {"-1", "-a"}, {" - 9", "1"}, {"０", "1"}, {".9", "1"},
		// 0 ahead counts for nothing; of the same number octets tell
		{"007", "10"}, {"01", "2"}, {"007", "7"}, {"0", "00"}, {"-0", "0"}, {"-00", "0"}, {"-", "0"}, {"+5", "-"}, {"+5", "0"}, {"0", "a"}, {"-0", "a"}, {"-1", "-0"}, {"-0", "1"}, {"-01", "-1"}, {"-0010", "-9"}, {"0x9", "1"}, {"000", "0001"}, {"0", "0 "}, {"", "0"}, {" ", "0"},
		// more than 64 bits
		{"9223372036854775807", "9223372036854775808"}, {"1", "18446744073709551617"}, {"99999999999999999999", "100000000000000000000"}, {"-100000000000000000000", "-99999999999999999999"}, {"-99999999999999999999", "1"},
		{"000000000000000000000000000001", "2"}, {"100000000000000000000", "00100000000000000000001"}, {"-18446744073709551617", "-1"}, {"99999999999999999998", "99999999999999999999"}, {"-99999999999999999999", "-99999999999999999998"},
	} {
		up, down := l[0]+"\n"+l[1]+"\n", l[1]+"\n"+l[0]+"\n"
		for _, s := range list(up, down, strings.TrimSuffix(up, "\n")) {
			if l[1] == "" && s != down { // without its newline an empty line is none
				continue
			}
			if got := Sort(s, false, false, true); got != up {
				t.Errorf("P11.1: Sort(%q) by numbers: %q", s, got)
			}
			if got := Sort(s, true, true, true); got != down {
				t.Errorf("P11.1: Sort(%q) by numbers, the other way round: %q", s, got)
			}
		}
	}
	if s := Sort("1\n01\n1\n1 \n+1\n", false, true, true); s != "+1\n01\n1\n1 \n" {
		t.Errorf("P11.1: lines that are not the same, but their numbers: %q", s)
	}
}

// TestUniqCutRev: P11.1, ordinary lines and the edges.
func TestUniqCutRev(t *testing.T) {
	for _, c := range [][2]string{
		{"", ""}, {"a", "a\n"}, {"a\na\n", "a\n"}, {"a\na", "a\n"}, {"a\nb\na\n", "a\nb\na\n"}, {"a\na\na\nb\nb\na\n", "a\nb\na\n"}, {"\n\n\na\n\n", "\na\n\n"}, {"a\na \n a\n", "a\na \n a\n"}, {"a\nA\n", "a\nA\n"}, {"1\n01\n", "1\n01\n"}, {"\xff\n\xfe\n\xfe", "\xff\n\xfe\n"}, {"\n", "\n"}, {"\na", "\na\n"},
	} {
		if s := Uniq(c[0]); s != c[1] {
			t.Errorf("P11.1: Uniq(%q): %q, want %q", c[0], s, c[1])
		}
	}
	for _, c := range []struct {
		s     string
		mark  byte
		field int
		want  string
	}{
		{"a:b:c\n", ':', 1, "a\n"}, {"a:b:c\n", ':', 2, "b\n"}, {"a:b:c", ':', 3, "c\n"}, {"a:b:c\n", ':', 4, "\n"}, {"a:b:c\n", ':', math.MaxInt, "\n"}, {"a:b:c\n", ':', 0, "\n"}, {"a:b:c\n", ':', -1, "\n"}, {"a:b:c\n", ':', math.MinInt, "\n"},
		{"abc\n", ':', 1, "abc\n"}, {"abc\n", ':', 2, "abc\n"}, {"abc", ':', 0, "abc\n"}, {"abc\n", ':', -1, "abc\n"}, {"abc\n", ':', math.MaxInt, "abc\n"},
		{"", ':', 1, ""}, {"\n", ':', 2, "\n"}, {":\n", ':', 1, "\n"}, {":\n", ':', 2, "\n"}, {":\n", ':', 3, "\n"}, {":a", ':', 2, "a\n"}, {"a::b\n", ':', 2, "\n"}, {"a::b\n", ':', 3, "b\n"}, {"a:", ':', 2, "\n"},
		{"a:b\nc\nd:e:f\n\n", ':', 2, "b\nc\ne\n\n"}, {"a:b\nc\nd:e:f", ':', 3, "\nc\nf\n"}, {"a\tb\n", '\t', 2, "b\n"}, {"a b\n", '\t', 2, "a b\n"}, {"a\nb\n", '\n', 2, "a\nb\n"}, {"a\x00b\n", 0, 2, "b\n"},
		{"a\xffb\n", 0xff, 2, "b\n"}, {"é\n", 0xc3, 2, "\xa9\n"}, {"é\n", 0xe9, 2, "é\n"},
	} {
		if s := Cut(c.s, c.mark, c.field); s != c.want {
			t.Errorf("P11.1: Cut(%q, %q, %d): %q, want %q", c.s, c.mark, c.field, s, c.want)
		}
	}
	for _, c := range [][2]string{{"", ""}, {"a", "a\n"}, {"abc\n", "cba\n"}, {"abc\nde", "cba\ned\n"}, {"\n\n", "\n\n"}, {"ab\n\nc\n", "ba\n\nc\n"}, {"ab\r\n", "\rba\n"}, {"é\n", "\xa9\xc3\n"}, {" a\x00", "\x00a \n"}} {
		if s := Rev(c[0]); s != c[1] {
			t.Errorf("P11.1: Rev(%q): %q, want %q", c[0], s, c[1])
		}
	}
}

// holdLines holds all that is asked of a text's lines against the slow ones.
func holdLines(t *testing.T, s string) {
	t.Helper()
	for flags := range 8 {
		reverse, unique, numbers := flags&1 > 0, flags&2 > 0, flags&4 > 0
		if got, want := Sort(s, reverse, unique, numbers), slowSort(s, reverse, unique, numbers); got != want {
			t.Errorf("P11.1: Sort(%q, %t, %t, %t): %q, want %q", s, reverse, unique, numbers, got, want)
		}
	}
	if got, want := Uniq(s), slowUniq(s); got != want {
		t.Errorf("P11.1: Uniq(%q): %q, want %q", s, got, want)
	}
	if got, want := Rev(s), slowRev(s); got != want {
		t.Errorf("P11.1: Rev(%q): %q, want %q", s, got, want)
	}
	for _, mark := range []byte(" :a\n") {
		for field := -1; field < 6; field++ {
			if got, want := Cut(s, mark, field), slowCut(s, mark, field); got != want {
				t.Errorf("P11.1: Cut(%q, %q, %d): %q, want %q", s, mark, field, got, want)
			}
		}
	}
}

// TestLinesAll: P11.1, all texts that are short.
func TestLinesAll(t *testing.T) {
	for _, s := range slices.Concat(spans("a:\n", 6), spans("ab\n", 6), spans(" -01\n", 5), spans("019\n", 5)) {
		holdLines(t, s)
	}
}

// TestLinesAny: P11.1, lines by chance.
func TestLinesAny(t *testing.T) {
	r := rand.New(rand.NewSource(11))
	for range 3000 {
		s := anyLines(r)
		holdLines(t, s)
		counted(t, s, slowCount(s))
		n := r.Intn(12)
		if Head(s, n) != slowHead(s, n) || Tail(s, n) != slowTail(s, n) {
			t.Errorf("P11.1: Head and Tail(%q, %d): %q, %q", s, n, Head(s, n), Tail(s, n))
		}
	}
}
