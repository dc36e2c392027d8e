package octets

import (
	"slices"
	"strings"
	"testing"
	"unsafe"

	"cowrie/api"
)

// plainOctets is written out by hand, so that it doesn't follow the package's own idea of it.
const plainOctets = "abcdefghijklmnopqrstuvwxyzABCDEFGHIJKLMNOPQRSTUVWXYZ0123456789_-./:,+=@%"

const (
	letters = "abcdefghijklmnopqrstuvwxyzABCDEFGHIJKLMNOPQRSTUVWXYZ"
	digits  = "0123456789"
)

// octet is the text of one octet; string(rune) would write two for those above 127.
func octet(c int) string { return string([]byte{byte(c)}) }

// texts are ordinary and odd ones, all of which may be.
func texts() []string {
	l := []string{
		"", "a", "a b", "'", "''", "a'b", "'a'", "\\", "\\'", "$x", "`a`", "\"", "a\nb", "\n", "\n\n",
		"a\n\nb\n", "*", "?", "a=b", "~", "#", "é", "\xff\xfe", "\xe4\xbd'", "--", "a/b.c", "[[", "{a,b}",
		strings.Repeat("x", api.MaxText), strings.Repeat("'", api.MaxText), strings.Repeat(" ", api.MaxText),
	}
	for c := 1; c < 256; c++ {
		l = append(l, octet(c), "a"+octet(c), octet(c)+"a", octet(c)+"'"+octet(c))
	}
	const odd = " '\"\\$`ab*\n\t;&|<>()~\xff"
	seed := uint32(1)
	for n := range 300 {
		b := make([]byte, n%40)
		for i := range b {
			seed = seed*1664525 + 1013904223
			b[i] = odd[int(seed>>8)%len(odd)]
		}
		l = append(l, string(b))
	}
	return l
}

// TestCheck: P1.1, an octet 0 anywhere, the greatest length and one more, and which error goes ahead.
func TestCheck(t *testing.T) {
	full := strings.Repeat("a", api.MaxText)
	cases := []struct {
		s    string
		want api.Errno
	}{
		{"", api.OK},
		{"a b\n'\xff", api.OK},
		{"\x01", api.OK},
		{"\x00", api.ErrText},
		{"\x00a", api.ErrText},
		{"a\x00b", api.ErrText},
		{"ab\x00", api.ErrText},
		{full, api.OK},
		{full + "a", api.ErrLong},
		{full + full, api.ErrLong},
		{full[1:] + "\x00", api.ErrText},
		{full + "\x00", api.ErrText},
		{"\x00" + full, api.ErrText},
	}
	for _, c := range cases {
		if got := Check(c.s); got != c.want {
			t.Errorf("P1.1: Check of %d octets, %.20q: %d, want %d", len(c.s), c.s, got, c.want)
		}
	}
}

// TestName: P1.1.
func TestName(t *testing.T) {
	long := strings.Repeat("a", api.MaxName)
	for _, s := range []string{"a", "Z", "_", "a1", "_1", "A_b_9", "if", "IFS", long, "_" + long[1:], long[1:] + "0"} {
		if !Name(s) {
			t.Errorf("P1.1: %q is a name", s)
		}
	}
	for _, s := range []string{"", "1", "1a", "0_", "a-b", "a b", " a", "a ", "a\n", "a.b", "a$", "é", "aé", "a\xff", "a\x00", "\x00", long + "a"} {
		if Name(s) {
			t.Errorf("P1.1: %q is no name", s)
		}
	}
}

// TestNameOctets: P1.1, each octet in a name's first place and behind it.
func TestNameOctets(t *testing.T) {
	for c := range 256 {
		first := strings.Contains(letters+"_", octet(c))
		later := strings.Contains(letters+digits+"_", octet(c))
		if Name(octet(c)) != first {
			t.Errorf("P1.1: Name of octet %d: want %t", c, first)
		}
		if Name("a"+octet(c)) != later || Name("a"+octet(c)+"a") != later {
			t.Errorf("P1.1: Name with octet %d within: want %t", c, later)
		}
	}
}

// TestReserved: P1.1.
func TestReserved(t *testing.T) {
	words := strings.Fields("if then elif else fi do done case esac while until for in { } ! function [[ ]] select")
	for _, w := range words {
		if !Reserved(w) {
			t.Errorf("P1.1: %q is reserved", w)
		}
		for _, s := range []string{w + " ", " " + w, w + w, w + "x", strings.ToUpper(w) + "X", "\\" + w} {
			if Reserved(s) {
				t.Errorf("P1.1: %q is not reserved", s)
			}
		}
	}
	for _, s := range []string{"", " ", "If", "FI", "i", "f", "if then", "[", "]", "((", "))", "local", "time", "return", "test", "echo", "{}", "a"} {
		if Reserved(s) {
			t.Errorf("P1.1: %q is not reserved", s)
		}
	}
}

// TestDigits: P1.1.
func TestDigits(t *testing.T) {
	for _, s := range []string{"0", "9", "0123456789", "007", strings.Repeat("1", 2*api.MaxText)} {
		if !Digits(s) {
			t.Errorf("P1.1: %.20q is digits", s)
		}
	}
	for _, s := range []string{"", " ", "-1", "+1", "1 ", " 1", "1a", "a1", "1.0", "1\n", "0x1", "٣", "1\x00"} {
		if Digits(s) {
			t.Errorf("P1.1: %q is not digits", s)
		}
	}
	for c := range 256 {
		if want := strings.Contains(digits, octet(c)); Digits(octet(c)) != want || Digits("1"+octet(c)) != want {
			t.Errorf("P1.1: Digits with octet %d: want %t", c, want)
		}
	}
}

// TestPlain: P1.1, each octet alone and among others.
func TestPlain(t *testing.T) {
	if !Plain(plainOctets) {
		t.Error("P1.1: all the plain ones are plain")
	}
	for c := range 256 {
		want := strings.Contains(plainOctets, octet(c))
		for _, s := range []string{octet(c), octet(c) + "a", "a" + octet(c), "a" + octet(c) + "a"} {
			if Plain(s) != want {
				t.Errorf("P1.1: Plain(%q): want %t", s, want)
			}
		}
	}
	if Plain("") {
		t.Error("P1.1: the empty text is not plain")
	}
	if !Plain(strings.Repeat("a", 2*api.MaxText)) {
		t.Error("P1.1: Plain asks for octets, not for a length")
	}
}

// TestQuote: P1.2.
func TestQuote(t *testing.T) {
	full := strings.Repeat("'", api.MaxText)
	cases := []struct {
		s, want string
		e       api.Errno
	}{
		{"a b", "'a b'", api.OK},
		{"", "''", api.OK},
		{"ab", "ab", api.OK},
		{plainOctets, plainOctets, api.OK},
		{"if", "if", api.OK},
		{"?", "'?'", api.OK},
		{"~", "'~'", api.OK},
		{"'", `''\'''`, api.OK},
		{"''", `''\'''\'''`, api.OK},
		{"a'b", `'a'\''b'`, api.OK},
		{`\`, `'\'`, api.OK},
		{"\n", "'\n'", api.OK},
		{"é\xff", "'é\xff'", api.OK},
		{full, "'" + strings.Repeat(`'\''`, api.MaxText) + "'", api.OK},
		{"a\x00b", "", api.ErrText},
		{full + "a", "", api.ErrLong},
		{strings.Repeat("a", api.MaxText+1), "", api.ErrLong},
		{full + "\x00", "", api.ErrText},
	}
	for _, c := range cases {
		if got, e := Quote(c.s); got != c.want || e != c.e {
			t.Errorf("P1.2: Quote(%.20q): %.40q, %d, want %.40q, %d", c.s, got, e, c.want, c.e)
		}
	}
}

// TestLines: P1.2.
func TestLines(t *testing.T) {
	cases := []struct {
		s    string
		want []string
	}{
		{"", nil},
		{"a", []string{"a"}},
		{"a\n", []string{"a"}},
		{"a\nb", []string{"a", "b"}},
		{"a\nb\n", []string{"a", "b"}},
		{"\n", []string{""}},
		{"\n\n", []string{"", ""}},
		{"\na", []string{"", "a"}},
		{"a\n\nb", []string{"a", "", "b"}},
		{"a\n\n", []string{"a", ""}},
		{" \n", []string{" "}},
		{"a\r\nb", []string{"a\r", "b"}},
		{"\xff\n\x00\né", []string{"\xff", "\x00", "é"}},
	}
	for _, c := range cases {
		if got := Lines(c.s); !slices.Equal(got, c.want) {
			t.Errorf("P1.2: Lines(%q): %q, want %q", c.s, got, c.want)
		}
	}
}

// TestTrim: P1.2.
func TestTrim(t *testing.T) {
	cases := []struct{ s, want string }{
		{"", ""},
		{"a", "a"},
		{"a\n", "a"},
		{"a\n\n\n", "a"},
		{"\n", ""},
		{"\n\n", ""},
		{"\na\n", "\na"},
		{"a\nb", "a\nb"},
		{"a \n", "a "},
		{"a\n ", "a\n "},
		{"a\r\n", "a\r"},
		{"a\t\n", "a\t"},
		{"\xff\n", "\xff"},
		{"\xe4\xbd\n\n", "\xe4\xbd"},
		{"a\x00\n", "a\x00"},
	}
	for _, c := range cases {
		if got := Trim(c.s); got != c.want {
			t.Errorf("P1.2: Trim(%q): %q, want %q", c.s, got, c.want)
		}
	}
}

// TestSorted: P1.2, by octets: neither by letters' case, nor by length, nor by numbers.
func TestSorted(t *testing.T) {
	cases := []struct{ l, want []string }{
		{nil, nil},
		{[]string{}, nil},
		{[]string{"a"}, []string{"a"}},
		{[]string{"b", "a"}, []string{"a", "b"}},
		{[]string{"b", "a", "b", "a"}, []string{"a", "a", "b", "b"}},
		{[]string{"a", "B", "A", "b"}, []string{"A", "B", "a", "b"}},
		{[]string{"10", "9", "1"}, []string{"1", "10", "9"}},
		{[]string{"ab", "", "a", "a\x00"}, []string{"", "a", "a\x00", "ab"}},
		{[]string{"\xff", "é", "z", "_", "\x01"}, []string{"\x01", "_", "z", "é", "\xff"}},
		{[]string{"a b", "a", "a-b", "a_b"}, []string{"a", "a b", "a-b", "a_b"}},
	}
	for _, c := range cases {
		if got := Sorted(c.l); !slices.Equal(got, c.want) {
			t.Errorf("P1.2: Sorted(%q): %q, want %q", c.l, got, c.want)
		}
	}
}

// outside cuts a quoted text into what it says and the octets that stand bare outside of its quotes.
func outside(q string) (said, bare string, whole bool) {
	var s, b []byte
	within := false
	for i := 0; i < len(q); i++ {
		switch {
		case q[i] == '\'':
			within = !within
		case within:
			s = append(s, q[i])
		case q[i] == '\\' && i+1 < len(q):
			i++
			s = append(s, q[i])
		default:
			s, b = append(s, q[i]), append(b, q[i])
		}
	}
	return string(s), string(b), !within
}

// TestQuotedBare: P1.3, and that the text comes back from its quoted form (G5).
func TestQuotedBare(t *testing.T) {
	for _, s := range texts() {
		q, e := Quote(s)
		said, bare, whole := outside(q)
		if e != api.OK || !whole || said != s {
			t.Fatalf("P1.3: Quote(%.40q): %.60q, %d: says %.40q", s, q, e, said)
		}
		if i := strings.IndexFunc(bare, func(r rune) bool { return !strings.ContainsRune(plainOctets, r) }); i >= 0 {
			t.Errorf("P1.3: Quote(%.40q): %.60q: bare %q", s, q, bare[i])
		}
		if s == "" && q == "" {
			t.Error("P1.3: nothing is left of the empty text")
		}
	}
}

// shares: does a lie within b's memory?
func shares(a, b string) bool {
	if a == "" || b == "" {
		return false
	}
	at, from := uintptr(unsafe.Pointer(unsafe.StringData(a))), uintptr(unsafe.Pointer(unsafe.StringData(b)))
	return at >= from && at < from+uintptr(len(b))
}

// TestTextMemory: P1.4, answers share no octets with the text handed in.
func TestTextMemory(t *testing.T) {
	for _, s := range []string{"a", "ab", "a\nb", "a\nb\n", "a'b", "a b"} {
		if q, _ := Quote(s); shares(q, s) {
			t.Errorf("P1.4: Quote(%q) shares its argument", s)
		}
		if shares(Trim(s), s) {
			t.Errorf("P1.4: Trim(%q) shares its argument", s)
		}
		for _, line := range Lines(s) {
			if shares(line, s) {
				t.Errorf("P1.4: Lines(%q) shares its argument", s)
			}
		}
	}
}

// TestListMemory: P1.4, the list handed in is not changed, and no two lists are one.
func TestListMemory(t *testing.T) {
	in := append(make([]string, 0, 8), "c", "a", "b")
	first, second := Sorted(in), Sorted(in)
	if !slices.Equal(in, []string{"c", "a", "b"}) || !slices.Equal(in[:8], []string{"c", "a", "b", "", "", "", "", ""}) {
		t.Errorf("P1.4: Sorted changed its argument: %q", in[:8])
	}
	for i := range first {
		if shares(first[i], in[0]) || shares(first[i], in[1]) || shares(first[i], in[2]) {
			t.Errorf("P1.4: Sorted shares the text %q", first[i])
		}
		first[i] = "z"
	}
	_ = append(first, "y")
	if !slices.Equal(second, []string{"a", "b", "c"}) || !slices.Equal(in, []string{"c", "a", "b"}) {
		t.Errorf("P1.4: Sorted shares its list: %q, %q", second, in)
	}
	done := []string{"a", "b"}
	if got := Sorted(done); &got[0] == &done[0] {
		t.Error("P1.4: Sorted hands back a list that was in order")
	}
	one, two := Lines("a\nb"), Lines("a\nb")
	one[0] = "z"
	if two[0] != "a" || Lines("a\nb")[0] != "a" {
		t.Error("P1.4: Lines shares its list")
	}
}

// TestAgain: P1.4, nothing is kept: a call answers the same whatever was asked ahead of it.
func TestAgain(t *testing.T) {
	for _, s := range append(texts(), "\x00", strings.Repeat("a", api.MaxText+1)) {
		q, e := Quote(s)
		l, trimmed := Lines(s), Trim(s)
		Quote("a'b")
		Lines("x\ny")
		Sorted([]string{"b", "a"})
		again, f := Quote(s)
		if again != q || f != e || !slices.Equal(Lines(s), l) || Trim(s) != trimmed {
			t.Errorf("P1.4: another answer for %.20q", s)
		}
	}
}
