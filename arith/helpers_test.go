package arith

import (
	"fmt"
	"math/rand"
	"strconv"
	"strings"
	"testing"

	"cowrie/api"
)

// The operators by how many kids they have; those of two from the loosest on, those of a level together.
var (
	oneKid   = []string{"!", "~", "neg", "pre++", "pre--", "post++", "post--"}
	fromLeft = [][]string{
		{","}, {"||"}, {"&&"}, {"|"}, {"^"}, {"&"}, {"==", "!="}, {"<", "<=", ">", ">="}, {"<<", ">>"}, {"+", "-"}, {"*", "/", "%"},
	}
	assigns = []string{"=", "*=", "/=", "%=", "+=", "-=", "<<=", ">>=", "&=", "^=", "|="}
)

// twoKids: the operators of two expressions.
func twoKids() []string {
	l := []string{"**"}
	for _, level := range fromLeft {
		l = append(l, level...)
	}
	return l
}

// ops: all operators.
func ops() []string {
	l := append([]string{"?:"}, oneKid...)
	return append(append(l, assigns...), twoKids()...)
}

func isStep(op string) bool { return strings.HasSuffix(op, "++") || strings.HasSuffix(op, "--") }

func isAssign(op string) bool {
	return len(op) > 0 && strings.HasSuffix(op, "=") && !strings.Contains(" == != <= >= ", " "+op+" ")
}

// count: how many kids the operator has.
func count(op string) int {
	switch {
	case op == "?:":
		return 3
	case isStep(op) || op == "!" || op == "~" || op == "neg":
		return 1
	}
	return 2
}

func num(n int) api.Sum                       { return api.Sum{N: n} }
func v(name string) api.Sum                   { return api.Sum{Name: name} }
func op(name string, kids ...api.Sum) api.Sum { return api.Sum{Op: name, Kids: kids} }
func chain(n int, x api.Sum, by func(api.Sum) api.Sum) api.Sum {
	for range n {
		x = by(x)
	}
	return x
}

// shape tells an expression so that no two are told alike, and what should be empty, if it is not.
func shape(x api.Sum) string {
	if x.Op == "" && x.Name == "" && len(x.Kids) == 0 {
		return strconv.Itoa(x.N)
	}
	if x.Op == "" && x.N == 0 && len(x.Kids) == 0 {
		return x.Name
	}
	l := []string{x.Op}
	for _, k := range x.Kids {
		l = append(l, shape(k))
	}
	if x.Name != "" || x.N != 0 || x.Op == "" {
		l = append(l, fmt.Sprintf("?%s?%d", x.Name, x.N))
	}
	return "(" + strings.Join(l, " ") + ")"
}

// depth: how many are within each other.
func depth(x api.Sum) int {
	n := 0
	for _, k := range x.Kids {
		n = max(n, depth(k))
	}
	return n + 1
}

// has: has it, or anything within, one of the operators that bash alone has?
func has(x api.Sum) bool {
	found := x.Op == "**" || isStep(x.Op)
	for _, k := range x.Kids {
		found = found || has(k)
	}
	return found
}

// copied is an expression of memory of its own.
func copied(x api.Sum) api.Sum {
	y := api.Sum{Op: strings.Clone(x.Op), Name: strings.Clone(x.Name), N: x.N}
	for _, k := range x.Kids {
		y.Kids = append(y.Kids, copied(k))
	}
	return y
}

// random is an expression of at most that depth.
func random(r *rand.Rand, most int) api.Sum {
	names := []string{"x", "y", "_", "if", "neg", "a1", strings.Repeat("n", api.MaxName)}
	numbers := []int{0, 1, 2, 7, 8, 10, 31, 100, 1 << 31, 1<<63 - 1}
	if most <= 1 || r.Intn(8) == 0 {
		if r.Intn(2) == 0 {
			return v(names[r.Intn(len(names))])
		}
		return num(numbers[r.Intn(len(numbers))])
	}
	all := ops()
	o := all[r.Intn(len(all))]
	x := api.Sum{Op: o}
	for i := range count(o) {
		k := random(r, most-1)
		if i == 0 && (isStep(o) || isAssign(o)) {
			k = v(names[r.Intn(len(names))])
		}
		x.Kids = append(x.Kids, k)
	}
	return x
}

// spelt writes an expression with parentheses around all, and blanks, + and $ where chance will have them.
func spelt(r *rand.Rand, x api.Sum) string {
	gap := func() string { return []string{"", "", " ", "\t", "\n", "  "}[r.Intn(6)] }
	var s string
	kid := func(i int) string { return gap() + spelt(r, x.Kids[i]) + gap() }
	switch {
	case x.Op == "" && x.Name != "":
		return []string{"", "", "$"}[r.Intn(3)] + x.Name
	case x.Op == "":
		return []string{strconv.Itoa(x.N), fmt.Sprintf("0x%x", x.N), fmt.Sprintf("0X%X", x.N), fmt.Sprintf("0%o", x.N)}[r.Intn(4)]
	case x.Op == "?:":
		s = kid(0) + "?" + kid(1) + ":" + kid(2)
	case x.Op == "neg":
		s = "-" + gap() + "(" + kid(0) + ")"
	case strings.HasPrefix(x.Op, "pre"):
		s = x.Op[3:] + kid(0)
	case strings.HasPrefix(x.Op, "post"):
		s = kid(0) + x.Op[4:]
	case count(x.Op) == 1:
		s = x.Op + kid(0)
	case x.Op == "+": // not right ahead of another one
		s = kid(0) + "+ " + kid(1)
	default:
		s = kid(0) + x.Op + kid(1)
	}
	return []string{"", "", "+ "}[r.Intn(3)] + "(" + gap() + s + gap() + ")"
}

// reads asks for an expression by its shape.
func reads(t *testing.T, s string, bash bool, want string) {
	t.Helper()
	x, n, e := Parse(s, bash)
	if got := shape(x); got != want || n != len(s) || e != api.OK {
		t.Errorf("P5.1: Parse(%.60q, %t): %.90s, %d, %d, want %.90s, %d, %d", s, bash, got, n, e, want, len(s), api.OK)
	}
}

// refuses asks for a fault, its place, and nothing beside it.
func refuses(t *testing.T, s string, bash bool, place int, want api.Errno) {
	t.Helper()
	x, n, e := Parse(s, bash)
	if shape(x) != "0" || n != place || e != want {
		t.Errorf("P5.1: Parse(%.60q, %t): %.60s, %d, %d, want 0, %d, %d", s, bash, shape(x), n, e, place, want)
	}
}

// readsBoth asks in both dialects.
func readsBoth(t *testing.T, s, want string) {
	t.Helper()
	reads(t, s, false, want)
	reads(t, s, true, want)
}

// refusesBoth likewise.
func refusesBoth(t *testing.T, s string, place int, want api.Errno) {
	t.Helper()
	refuses(t, s, false, place, want)
	refuses(t, s, true, place, want)
}
