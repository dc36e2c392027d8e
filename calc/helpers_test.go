package calc

import (
	"fmt"
	"math"
	"math/big"
	"math/rand"
	"slices"
	"strconv"
	"strings"
	"testing"

	"cowrie/api"
)

// The operators of two numbers, and those of an assignment and a number.
var (
	joins   = []string{"*", "/", "%", "+", "-", "<<", ">>", "<", "<=", ">", ">=", "==", "!=", "&", "^", "|", "&&", "||", ",", "**"}
	assigns = []string{"=", "*=", "/=", "%=", "+=", "-=", "<<=", ">>=", "&=", "^=", "|="}
	steps   = []string{"pre++", "pre--", "post++", "post--"}
)

func num(n int) api.Sum                       { return api.Sum{N: n} }
func v(name string) api.Sum                   { return api.Sum{Name: name} }
func op(name string, kids ...api.Sum) api.Sum { return api.Sum{Op: name, Kids: kids} }

// text is a variable that is a text.
func text(name, s string) api.Var { return api.Var{Name: name, Text: s} }

// list is a variable that is an array.
func list(name string, l ...string) api.Var { return api.Var{Name: name, Array: true, List: l} }

// valued tells any number as an expression, those below 0 too.
func valued(n int) api.Sum {
	if n < 0 {
		return op("neg", op("+", num(-(n+1)), num(1)))
	}
	return num(n)
}

// shape tells variables so that no two lists are told alike; nil and empty lists are one.
func shape(vars []api.Var) string {
	var l []string
	for _, x := range vars {
		l = append(l, fmt.Sprintf("%q=%q %t %q", x.Name, x.Text, x.Array, x.List))
	}
	return strings.Join(l, "; ")
}

// edges: numbers at which something might turn over.
func edges() []int {
	l := []int{0, 3, 5, 7, 10, 100, 127, 129, 1000, math.MinInt64, math.MaxInt64, math.MinInt64 + 1, -3, -5, -7, -10, -100, -127, -129}
	for _, bit := range []int{0, 1, 5, 6, 7, 31, 32, 33, 62} {
		n := 1 << bit
		l = append(l, n, n-1, n+1, -n, -n-1, -n+1)
	}
	slices.Sort(l)
	return slices.Compact(l)
}

// spans: every text of those octets that is at most so long.
func spans(octets string, most int) []string {
	all := []string{""}
	last := all
	for range most {
		var next []string
		for _, s := range last {
			for i := range len(octets) {
				next = append(next, s+octets[i:i+1])
			}
		}
		all = append(all, next...)
		last = next
	}
	return all
}

// wrapped: a whole number modulo 2^64, as one of 64 bits with a sign.
func wrapped(n *big.Int) int {
	all := new(big.Int).Lsh(big.NewInt(1), 64)
	m := new(big.Int).Mod(n, all)
	if m.Bit(63) == 1 {
		m.Sub(m, all)
	}
	return int(m.Int64())
}

func one(so bool) int {
	if so {
		return 1
	}
	return 0
}

// wanted: what the document's words make of two numbers, by numbers of any size.
func wanted(name string, a, b int) (int, api.Errno) {
	x, y, z := big.NewInt(int64(a)), big.NewInt(int64(b)), new(big.Int)
	shift := uint(new(big.Int).Mod(y, big.NewInt(64)).Int64()) // Mod's rest is from 0 on
	switch name {
	case "*":
		z.Mul(x, y)
	case "+":
		z.Add(x, y)
	case "-":
		z.Sub(x, y)
	case "/", "%":
		if b == 0 {
			return 0, api.ErrZero
		}
		rest := new(big.Int)
		z.QuoRem(x, y, rest) // toward 0
		if name == "%" {
			z = rest
		}
	case "<<":
		z.Lsh(x, shift)
	case ">>":
		z.Rsh(x, shift)
	case "&":
		z.And(x, y)
	case "^":
		z.Xor(x, y)
	case "|":
		z.Or(x, y)
	case "**":
		if b < 0 {
			return 0, api.ErrRange
		}
		z.Exp(x, y, new(big.Int).Lsh(big.NewInt(1), 64))
	case ",":
		return b, api.OK
	case "&&":
		return one(a != 0 && b != 0), api.OK
	case "||":
		return one(a != 0 || b != 0), api.OK
	default:
		c := x.Cmp(y)
		return one(map[string]bool{"<": c < 0, "<=": c <= 0, ">": c > 0, ">=": c >= 0, "==": c == 0, "!=": c != 0}[name]), api.OK
	}
	return wrapped(z), api.OK
}

// textNumber: the number of a variable's text, by the document's words.
func textNumber(s string) (int, api.Errno) {
	if s == "" {
		return 0, api.OK
	}
	s = strings.Trim(s, " \t")
	sign := 1
	if strings.HasPrefix(s, "-") {
		sign, s = -1, s[1:]
	}
	base, digits := 10, "0123456789"
	switch {
	case strings.HasPrefix(s, "0x") || strings.HasPrefix(s, "0X"):
		base, digits, s = 16, "0123456789abcdefABCDEF", s[2:]
	case len(s) > 1 && s[0] == '0':
		base, digits, s = 8, "01234567", s[1:]
	}
	for i := range len(s) {
		if strings.IndexByte(digits, s[i]) < 0 {
			return 0, api.ErrSyntax
		}
	}
	n, ok := new(big.Int).SetString(s, base)
	if !ok {
		return 0, api.ErrSyntax
	}
	return wrapped(n.Mul(n, big.NewInt(int64(sign)))), api.OK
}

// slow works an expression out step by step, each assignment laid into a list of variables at once.
type slow struct{ vars []api.Var }

func (s *slow) number(name string) (int, api.Errno) {
	n, e := 0, api.OK
	for _, x := range s.vars {
		switch {
		case x.Name != name:
		case x.Array:
			n, e = 0, api.ErrSyntax
		default:
			n, e = textNumber(x.Text)
		}
	}
	return n, e
}

func (s *slow) put(name string, n int) {
	var l []api.Var
	found := false
	for _, x := range s.vars {
		if x.Name != name {
			l = append(l, x)
		} else if !found {
			found = true
			l = append(l, text(name, strconv.Itoa(n)))
		}
	}
	if !found {
		l = append(l, text(name, strconv.Itoa(n)))
	}
	s.vars = l
}

func (s *slow) eval(x api.Sum) (int, api.Errno) {
	if x.Op == "" {
		if x.Name != "" {
			return s.number(x.Name)
		}
		return x.N, api.OK
	}
	if slices.Contains(steps, x.Op) || slices.Contains(assigns, x.Op) {
		return s.write(x)
	}
	a, e := s.eval(x.Kids[0])
	if e != api.OK {
		return 0, e
	}
	switch {
	case x.Op == "!":
		return one(a == 0), api.OK
	case x.Op == "~":
		return wrapped(new(big.Int).Not(big.NewInt(int64(a)))), api.OK
	case x.Op == "neg":
		return wrapped(new(big.Int).Neg(big.NewInt(int64(a)))), api.OK
	case x.Op == "?:" && a != 0:
		return s.eval(x.Kids[1])
	case x.Op == "?:":
		return s.eval(x.Kids[2])
	case x.Op == "&&" && a == 0:
		return 0, api.OK
	case x.Op == "||" && a != 0:
		return 1, api.OK
	}
	b, e := s.eval(x.Kids[1])
	if e != api.OK {
		return 0, e
	}
	return wanted(x.Op, a, b)
}

// write does an assignment, or a step.
func (s *slow) write(x api.Sum) (int, api.Errno) {
	name, was, e := x.Kids[0].Name, 0, api.OK
	if x.Op != "=" {
		if was, e = s.number(name); e != api.OK {
			return 0, e
		}
	}
	if slices.Contains(steps, x.Op) {
		is := wrapped(new(big.Int).Add(big.NewInt(int64(was)), big.NewInt(int64(map[byte]int{'+': 1, '-': -1}[x.Op[len(x.Op)-1]]))))
		s.put(name, is)
		if strings.HasPrefix(x.Op, "post") {
			return was, api.OK
		}
		return is, api.OK
	}
	n, e := s.eval(x.Kids[1])
	if e == api.OK && x.Op != "=" {
		n, e = wanted(strings.TrimSuffix(x.Op, "="), was, n)
	}
	if e != api.OK {
		return 0, e
	}
	s.put(name, n)
	return n, api.OK
}

// random is an expression of at most that depth.
func random(r *rand.Rand, most int) api.Sum {
	name := func() api.Sum { return v([]string{"a", "b", "c", "d", "e"}[r.Intn(5)]) }
	if most <= 1 || r.Intn(8) == 0 {
		if r.Intn(2) == 0 {
			return name()
		}
		return num([]int{0, 0, 1, 1, 2, 3, 7, 63, 64, 1 << 31, math.MaxInt64}[r.Intn(11)])
	}
	kid := func() api.Sum { return random(r, most-1) }
	switch r.Intn(8) {
	case 0:
		return op([]string{"!", "~", "neg"}[r.Intn(3)], kid())
	case 1:
		return op(steps[r.Intn(4)], name())
	case 2, 3:
		return op(assigns[r.Intn(len(assigns))], name(), kid())
	case 4:
		return op("?:", kid(), kid(), kid())
	}
	return op(joins[r.Intn(len(joins))], kid(), kid())
}

// evals asks for an expression's number and what is assigned, from its text in bash.
func evals(t *testing.T, s string, vars []api.Var, want int, after ...api.Var) {
	t.Helper()
	n, l, e := Text(s, vars, true)
	if n != want || shape(l) != shape(after) || e != api.OK {
		t.Errorf("P6.1: Text(%.60q, %s): %d, %s, %d, want %d, %s", s, shape(vars), n, shape(l), e, want, shape(after))
	}
}

// fails asks for an error, beside which the variables are as they were.
func fails(t *testing.T, x api.Sum, vars []api.Var, want api.Errno) {
	t.Helper()
	n, l, e := Eval(x, vars)
	if n != 0 || shape(l) != shape(vars) || e != want {
		t.Errorf("P6.1: Eval(%.90s, %s): %d, %s, %d, want 0, the variables as they were, %d", fmt.Sprint(x), shape(vars), n, shape(l), e, want)
	}
}

// refuses asks likewise, of a text in bash.
func refuses(t *testing.T, s string, vars []api.Var, want api.Errno) {
	t.Helper()
	n, l, e := Text(s, vars, true)
	if n != 0 || shape(l) != shape(vars) || e != want {
		t.Errorf("P6.2: Text(%.60q, %s): %d, %s, %d, want 0, the variables as they were, %d", s, shape(vars), n, shape(l), e, want)
	}
}
