package test

import (
	"math/big"
	"regexp"
	"slices"
	"strings"

	"cowrie/api"
)

// list makes arguments of texts.
func list(l ...string) []string { return l }

// octet is the text of one octet; string(rune) would write two for those above 127.
func octet(c int) string { return string([]byte{byte(c)}) }

// unaryOps and binaryOps: the operators, as the document lists them.
func unaryOps() []string  { return strings.Fields("-n -z -e -f -d -s") }
func binaryOps() []string { return strings.Fields("= != -eq -ne -lt -le -gt -ge") }

func dir(path string) api.Node        { return api.Node{Path: path, Dir: true} }
func leaf(path, data string) api.Node { return api.Node{Path: path, Data: data} }

// nodes is a tree of a directory, an empty one, a file, an empty one, and names that look like operators.
func nodes() []api.Node {
	return []api.Node{leaf("/!", "no"), leaf("/-f", "x"), dir("/d"), dir("/d/e"), leaf("/d/f", "data"), leaf("/f", "\x00"), leaf("/v", "")}
}

// stand is what stands at a path of nodes(): its kind, and is it a file with octets?
type stand struct {
	path string
	kind int
	data bool
}

// stands: paths of each sort in nodes(), as they are told and otherwise, and some that are none.
func stands() []stand {
	return []stand{
		{"/", 2, false}, {"//", 2, false}, {".", 2, false}, {"..", 2, false}, {"/d/..", 2, false},
		{"/d", 2, false}, {"d", 2, false}, {"./d/", 2, false}, {"/x/../d", 2, false}, {"/d/e", 2, false}, {"d//e/.", 2, false},
		{"/f", 1, true}, {"f", 1, true}, {"//f/", 1, true}, {"/d/f", 1, true}, {"d/e/../f", 1, true}, {"/!", 1, true}, {"!", 1, true}, {"-f", 1, true},
		{"/v", 1, false}, {"v", 1, false}, {"/d/../v", 1, false},
		{"/x", 0, false}, {"x", 0, false}, {"/d/x", 0, false}, {"/f/x", 0, false}, {"/F", 0, false}, {"/d/", 2, false}, {"/ d", 0, false}, {" ", 0, false}, {"/d*", 0, false},
		{"", 0, false}, {"\x00", 0, false}, {"/f\x00", 0, false}, {"/d\x00", 0, false}, {"\xff", 0, false}, {"(", 0, false}, {"=", 0, false},
	}
}

// so: 0 of what is true, 1 of what is false.
func so(is bool) int {
	return map[bool]int{true: 0, false: 1}[is]
}

// slowSingle: Single by the document's words, in nodes(); what stands() doesn't name is not there.
func slowSingle(op, s string) int {
	var at stand
	for _, st := range stands() {
		if st.path == s {
			at = st
		}
	}
	is, ok := map[string]bool{"-n": s != "", "-z": s == "", "-e": at.kind > 0, "-f": at.kind == 1, "-d": at.kind == 2, "-s": at.data}[op]
	if !ok {
		return 2
	}
	return so(is)
}

var decimal = regexp.MustCompile(`^[ \t]*([-+]?[0-9]+)[ \t]*$`)

// slowNumber: a text's number modulo 2^64, between -2^63 and 2^63; is it one?
func slowNumber(s string) (*big.Int, bool) {
	m := decimal.FindStringSubmatch(s)
	if m == nil {
		return nil, false
	}
	n, _ := new(big.Int).SetString(m[1], 10)
	half := new(big.Int).Lsh(big.NewInt(1), 63)
	n.Add(n, half)
	n.Mod(n, new(big.Int).Lsh(big.NewInt(1), 64))
	return n.Sub(n, half), true
}

// slowBoth: Both by the document's words.
func slowBoth(a, op, b string) int {
	switch op {
	case "=":
		return so(a == b)
	case "!=":
		return so(a != b)
	}
	m, ok := slowNumber(a)
	n, also := slowNumber(b)
	if !slices.Contains(binaryOps(), op) || !ok || !also {
		return 2
	}
	c := m.Cmp(n)
	return so(map[string]bool{"-eq": c == 0, "-ne": c != 0, "-lt": c < 0, "-le": c <= 0, "-gt": c > 0, "-ge": c >= 0}[op])
}

// slowEval: Eval in nodes() by the document's words, a count of arguments behind the other.
func slowEval(args []string) int {
	opposite := []int{1, 0, 2}
	within := func() bool { return args[0] == "(" && args[len(args)-1] == ")" }
	switch len(args) {
	case 0:
		return 1
	case 1:
		return so(args[0] != "")
	case 2:
		if args[0] == "!" {
			return opposite[slowEval(args[1:])]
		}
		if slices.Contains(unaryOps(), args[0]) {
			return slowSingle(args[0], args[1])
		}
	case 3:
		if slices.Contains(binaryOps(), args[1]) {
			return slowBoth(args[0], args[1], args[2])
		}
		if args[0] == "!" {
			return opposite[slowEval(args[1:])]
		}
		if within() {
			return slowEval(args[1:2])
		}
	case 4:
		if args[0] == "!" {
			return opposite[slowEval(args[1:])]
		}
		if within() {
			return slowEval(args[1:3])
		}
	}
	return 2
}

// rows hands every row of so many of those texts to do.
func rows(texts []string, count int, do func([]string)) {
	row := make([]string, count)
	var fill func(int)
	fill = func(at int) {
		if at == count {
			do(row)
			return
		}
		for _, s := range texts {
			row[at] = s
			fill(at + 1)
		}
	}
	fill(0)
}
