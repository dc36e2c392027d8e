package test

import (
	"math/rand"
	"slices"
	"strings"
	"testing"

	"cowrie/api"
)

// TestOperators: P10.1, of all texts of two octets, and all of three from a - on, just the listed ones are operators.
func TestOperators(t *testing.T) {
	var one, two []string
	hold := func(op string) {
		if Unary(op) {
			one = append(one, op)
		}
		if Binary(op) {
			two = append(two, op)
		}
		if n := Single(op, "x", nil); (n == 2) == Unary(op) {
			t.Errorf("P10.1: Single(%q): %d", op, n)
		}
		if n := Both("1", op, "1"); (n == 2) == Binary(op) {
			t.Errorf("P10.1: Both(%q): %d", op, n)
		}
	}
	hold("")
	for i := range 256 {
		hold(octet(i))
		for j := range 256 {
			hold(octet(i) + octet(j))
			hold("-" + octet(i) + octet(j))
		}
	}
	for _, op := range append(unaryOps(), binaryOps()...) {
		for _, s := range list(op+op, op+" ", " "+op, op+"\x00", "-"+op) {
			hold(s)
		}
	}
	for _, s := range list("==", "<", ">", "=~", "-a", "-o", "-r", "-w", "-x", "-L", "-h", "-nt", "-ot", "-ef", "!", "(", ")", "eq", "−eq") {
		if Unary(s) || Binary(s) {
			t.Errorf("P10.1: %q is no operator", s)
		}
	}
	slices.Sort(one)
	slices.Sort(two)
	want, also := unaryOps(), binaryOps()
	slices.Sort(want)
	slices.Sort(also)
	if !slices.Equal(one, want) || !slices.Equal(two, also) {
		t.Errorf("P10.1: operators: %q and %q, want %q and %q", one, two, want, also)
	}
}

// TestSingle: P10.1, each unary operator at each sort of path, and others.
func TestSingle(t *testing.T) {
	for _, c := range []struct {
		op, s string
		want  int
	}{
		{"-n", "", 1}, {"-n", "a", 0}, {"-n", " ", 0}, {"-n", "\x00", 0}, {"-n", "-n", 0}, {"-n", "0", 0},
		{"-z", "", 0}, {"-z", "a", 1}, {"-z", " ", 1}, {"-z", "\x00", 1}, {"-z", "-z", 1},
		{"-e", "/f", 0}, {"-e", "/d", 0}, {"-e", "/", 0}, {"-e", "/x", 1}, {"-e", "", 1},
		{"-f", "/f", 0}, {"-f", "/v", 0}, {"-f", "/d", 1}, {"-f", "/x", 1}, {"-f", "/", 1},
		{"-d", "/d", 0}, {"-d", "/", 0}, {"-d", "/f", 1}, {"-d", "/x", 1}, {"-d", "", 1},
		{"-s", "/f", 0}, {"-s", "/d/f", 0}, {"-s", "/v", 1}, {"-s", "/x", 1},
		{"-s", "/d", 1}, {"-s", "/", 1}, // no file, so no file with octets
		{"", "", 2}, {"", "a", 2}, {"-x", "/f", 2}, {"-r", "/f", 2}, {"!", "", 2}, {"=", "a", 2}, {"-eq", "1", 2}, {"n", "a", 2}, {"-N", "a", 2}, {"-ne", "a", 2},
	} {
		if n := Single(c.op, c.s, nodes()); n != c.want {
			t.Errorf("P10.1: Single(%q, %q): %d, want %d", c.op, c.s, n, c.want)
		}
	}
	for _, op := range append(unaryOps(), "-x", "=", "") {
		for _, st := range stands() {
			if n := Single(op, st.path, nodes()); n != slowSingle(op, st.path) {
				t.Errorf("P10.1: Single(%q, %q): %d, want %d", op, st.path, n, slowSingle(op, st.path))
			}
		}
	}
}

// TestSingleTree: P10.1, in no tree, and in nodes that are none: there is nothing at any path (tree.Kind).
func TestSingleTree(t *testing.T) {
	full := make([]api.Node, 257)
	for i := range full {
		full[i] = leaf("/"+octet('a'+i/26)+octet('a'+i%26), "")
	}
	for _, l := range [][]api.Node{
		{leaf("/f", "x"), leaf("/d", "x")}, {leaf("/f", "x"), leaf("/f", "x")}, {leaf("f", "x")}, {leaf("/d/f", "x"), leaf("/f", "x")}, {{Path: "/f", Dir: true, Data: "x"}},
		{{}, leaf("/f", "x")}, {leaf("/f", strings.Repeat("x", 1<<16+1))}, {dir("/"), leaf("/f", "x")}, full,
	} {
		for _, path := range list("/", "/f", "/d", "/d/f", "f", "/aa", "") {
			for _, op := range list("-e", "-f", "-d", "-s") {
				if n := Single(op, path, l); n != 1 {
					t.Errorf("P10.1: Single(%q, %q), no tree: %d", op, path, n)
				}
			}
		}
		if Single("-n", "a", l) != 0 || Single("-z", "", l) != 0 || Single("-x", "a", l) != 2 {
			t.Error("P10.1: Single of a text, no tree")
		}
	}
	for _, l := range [][]api.Node{nil, {}} {
		if Single("-e", "/", l) != 0 || Single("-d", "/", l) != 0 || Single("-f", "/", l) != 1 || Single("-s", "/", l) != 1 || Single("-e", "/f", l) != 1 {
			t.Error("P10.1: Single in an empty tree")
		}
	}
	most := []api.Node{leaf("/f", strings.Repeat("x", 1<<16))}
	if Single("-s", "/f", most) != 0 || Single("-s", "/f", full[:256]) != 1 || Single("-f", "/aa", full[:256]) != 0 {
		t.Error("P10.1: Single in a full tree")
	}
}

// TestBoth: P10.1, texts, numbers, and what is none.
func TestBoth(t *testing.T) {
	for _, c := range []struct {
		a, op, b string
		want     int
	}{
		{"a", "=", "a", 0}, {"a", "=", "b", 1}, {"a", "!=", "b", 0}, {"a", "!=", "a", 1}, {"", "=", "", 0}, {"", "!=", "", 1}, {"", "=", "a", 1},
		{"1", "=", "01", 1}, {"1", "=", " 1", 1}, {"a", "=", "A", 1}, {"a*", "=", "abc", 1}, {"\x00", "=", "", 1}, {"1", "!=", "+1", 0},
		{"1", "-eq", "01", 0}, {"1", "-eq", " +1\t", 0}, {"-0", "-eq", "0", 0}, {"010", "-eq", "10", 0}, {"010", "-eq", "8", 1}, {"1", "-eq", "2", 1},
		{"1", "-ne", "2", 0}, {"1", "-ne", "1", 1}, {"007", "-ne", "7", 1},
		{"3", "-lt", "5", 0}, {"5", "-lt", "3", 1}, {"3", "-lt", "3", 1}, {"-1", "-lt", "0", 0}, {"10", "-lt", "9", 1},
		{"3", "-le", "5", 0}, {"5", "-le", "3", 1}, {"3", "-le", "3", 0},
		{"5", "-gt", "3", 0}, {"3", "-gt", "5", 1}, {"3", "-gt", "3", 1}, {"-5", "-gt", "-6", 0},
		{"5", "-ge", "3", 0}, {"3", "-ge", "5", 1}, {"3", "-ge", "3", 0},
		// modulo 2^64, with a sign
		{"18446744073709551616", "-eq", "0", 0}, {"18446744073709551615", "-eq", "-1", 0}, {"9223372036854775808", "-lt", "0", 0}, {"9223372036854775807", "-gt", "-9223372036854775808", 0},
		{"9223372036854775808", "-eq", "-9223372036854775808", 0}, {"18446744073709551617", "-le", "1", 0},
		// no numbers
		{"", "-eq", "", 2}, {"", "-eq", "0", 2}, {"0", "-eq", "", 2}, {"a", "-eq", "a", 2}, {"1", "-ne", "a", 2}, {"a", "-ne", "1", 2}, {"1a", "-lt", "2", 2}, {"1", "-le", "0x1", 2},
		{"1", "-gt", "1.5", 2}, {"- 1", "-ge", "1", 2}, {" ", "-eq", " ", 2}, {"1\n", "-eq", "1", 2}, {"1", "-lt", "2\x00", 2}, {"+", "-ge", "1", 2},
		// no operators
		{"a", "==", "a", 2}, {"a", "", "a", 2}, {"1", "<", "2", 2}, {"1", "eq", "1", 2}, {"1", "-EQ", "1", 2}, {"1", "-n", "1", 2}, {"", "-z", "", 2}, {"/f", "-f", "/f", 2}, {"a", "!", "a", 2}, {"a", "-x", "a", 2},
	} {
		if n := Both(c.a, c.op, c.b); n != c.want {
			t.Errorf("P10.1: Both(%q, %q, %q): %d, want %d", c.a, c.op, c.b, n, c.want)
		}
	}
	texts := list("", "0", "-0", "1", "-1", "01", " 1 ", "+1", "9", "10", "-10", "a", "1a", "- 1", "--1", "\t", "9223372036854775807", "-9223372036854775808", "9223372036854775808", "18446744073709551615", "18446744073709551616", "-18446744073709551617", "123456789012345678901234567890")
	rows(texts, 2, func(row []string) {
		for _, op := range append(binaryOps(), "==", "-n", "") {
			if n := Both(row[0], op, row[1]); n != slowBoth(row[0], op, row[1]) {
				t.Errorf("P10.1: Both(%q, %q, %q): %d, want %d", row[0], op, row[1], n, slowBoth(row[0], op, row[1]))
			}
		}
	})
}

// TestEval: P10.2, each count of arguments.
func TestEval(t *testing.T) {
	for _, c := range []struct {
		args []string
		want int
	}{
		{nil, 1}, {list(), 1},
		// one
		{list(""), 1}, {list("a"), 0}, {list(" "), 0}, {list("!"), 0}, {list("("), 0}, {list("-n"), 0}, {list("-z"), 0}, {list("="), 0}, {list("0"), 0}, {list("-f"), 0},
		// two
		{list("!", ""), 0}, {list("!", "a"), 1}, {list("!", "!"), 1}, {list("!", "-n"), 1}, {list("!", "="), 1},
		{list("-n", ""), 1}, {list("-n", "a"), 0}, {list("-z", ""), 0}, {list("-z", "a"), 1}, {list("-z", "!"), 1}, {list("-f", "/f"), 0}, {list("-d", "/f"), 1}, {list("-d", "/d"), 0}, {list("-e", "/x"), 1}, {list("-s", "/v"), 1}, {list("-f", "!"), 0}, {list("-f", "-f"), 0},
		{list("a", "b"), 2}, {list("", ""), 2}, {list("(", ")"), 2}, {list("(", "a"), 2}, {list("=", "a"), 2}, {list("-eq", "1"), 2}, {list("-x", "/f"), 2}, {list("a", "!"), 2}, {list("a", "-n"), 2},
		// three
		{list("3", "-lt", "5"), 0}, {list("5", "-lt", "3"), 1}, {list("a", "-lt", "3"), 2}, {list("a", "=", "a"), 0}, {list("a", "!=", "a"), 1},
		{list("!", "=", "!"), 0}, {list("!", "=", "a"), 1}, {list("!", "=", ""), 1}, {list("!", "!=", "a"), 0}, {list("!", "-eq", "1"), 2}, {list("(", "=", ")"), 1}, {list("(", "!=", ")"), 0}, {list("(", "-eq", ")"), 2}, {list("-n", "=", "-n"), 0}, {list("-f", "=", "/f"), 1}, {list("=", "=", "="), 0},
		{list("!", "-n", ""), 0}, {list("!", "-z", ""), 1}, {list("!", "-f", "/f"), 1}, {list("!", "-f", "/x"), 0}, {list("!", "!", ""), 1}, {list("!", "!", "a"), 0}, {list("!", "a", "b"), 2}, {list("!", "(", ")"), 2}, {list("!", "-x", "a"), 2}, {list("!", "-z", "="), 0},
		{list("(", "a", ")"), 0}, {list("(", "", ")"), 1}, {list("(", "!", ")"), 0}, {list("(", "-z", ")"), 0}, {list("(", ")", ")"), 0}, {list("(", "(", ")"), 0},
		{list("a", "b", "c"), 2}, {list("-n", "a", "b"), 2}, {list("(", "a", "b"), 2}, {list("a", "b", ")"), 2}, {list("a", "==", "a"), 2}, {list("a", "-a", "b"), 2}, {list("a", "-o", "b"), 2}, {list("a", "!", "b"), 2}, {list("a", "-n", "b"), 2}, {list(")", "a", "("), 2}, {list("a", "=", "a "), 1},
		// four
		{list("!", "a", "=", "a"), 1}, {list("!", "a", "=", "b"), 0}, {list("!", "3", "-lt", "5"), 1}, {list("!", "a", "-lt", "5"), 2}, {list("!", "!", "=", "!"), 1}, {list("!", "!", "=", "a"), 0}, {list("!", "!", "!", "a"), 1}, {list("!", "!", "-z", ""), 0}, {list("!", "!", "a", "b"), 2},
		{list("!", "(", "a", ")"), 1}, {list("!", "(", "", ")"), 0}, {list("!", "(", "=", ")"), 0}, {list("!", "a", "b", "c"), 2}, {list("!", "a", "b", ")"), 2},
		{list("(", "!", "a", ")"), 1}, {list("(", "!", "", ")"), 0}, {list("(", "-n", "a", ")"), 0}, {list("(", "-z", "a", ")"), 1}, {list("(", "-d", "/d", ")"), 0}, {list("(", "a", "b", ")"), 2}, {list("(", "(", ")", ")"), 2}, {list("(", "=", "a", ")"), 2},
		{list("a", "=", "b", "c"), 2}, {list("a", "b", "=", "c"), 2}, {list("(", "a", "=", "a"), 2}, {list("a", "-n", "b", ")"), 2}, {list("-n", "a", "-n", "b"), 2}, {list("(", "-n", "a", "b"), 2},
		// more
		{list("!", "!", "a", "=", "a"), 2}, {list("(", "a", "=", "a", ")"), 2}, {list("!", "(", "-n", "a", ")"), 2}, {list("a", "=", "a", "-a", "b"), 2}, {list("-n", "a", "-o", "-n", "b"), 2}, {list("", "", "", "", ""), 2}, {list("!", "!", "!", "!", "a"), 2}, {list("a", "b", "c", "d", "e", "f"), 2},
	} {
		if n := Eval(c.args, nodes()); n != c.want || Eval(c.args, nodes()) != n {
			t.Errorf("P10.2: Eval(%q): %d, want %d", c.args, n, c.want)
		}
	}
}

// holds Eval against the slow one.
func holds(t *testing.T, args []string) {
	t.Helper()
	if n := Eval(args, nodes()); n != slowEval(args) {
		t.Errorf("P10.2: Eval(%q): %d, want %d", args, n, slowEval(args))
	}
}

// TestEvalAll: P10.2, all rows of signs, operators and texts that are short.
func TestEvalAll(t *testing.T) {
	texts := append(append(list("!", "(", ")", "", "a", "1", "-1", "/f", "/d", "v"), unaryOps()...), binaryOps()...)
	for count := range 4 {
		rows(texts, count, func(row []string) { holds(t, row) })
	}
	rows(list("!", "(", ")", "", "a", "1", "-z", "-f", "/f", "=", "-lt", "-x"), 4, func(row []string) { holds(t, row) })
	rows(list("!", "(", ")", "", "1", "-n", "="), 5, func(row []string) { holds(t, row) })
}

// TestEvalAny: P10.2, rows by chance, of up to seven arguments.
func TestEvalAny(t *testing.T) {
	texts := append(append(list("!", "!", "!", "(", "(", ")", ")", "", "a", "01", "-x", "==", "-a"), unaryOps()...), binaryOps()...)
	for _, st := range stands() {
		texts = append(texts, st.path)
	}
	r := rand.New(rand.NewSource(10))
	for range 60000 {
		row := make([]string, r.Intn(8))
		for i := range row {
			row[i] = texts[r.Intn(len(texts))]
		}
		holds(t, row)
	}
}
