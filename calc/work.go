package calc

import (
	"strings"

	"cowrie/api"
	"cowrie/arith"
	"cowrie/number"
)

// fault is what working out panics with.
type fault struct{ errno api.Errno }

// cell is a variable: as it came in (zero, if none did), and the number that it was assigned, if it was.
type cell struct {
	came api.Var
	set  bool
	n    int
}

// work is an expression that is being worked out: its variables by name, and which were assigned, in order of their first assignments.
type work struct {
	cells map[string]cell
	names []string
}

// begun: the work ahead of x. Of several variables of a name the last one counts.
func begun(x api.Sum, vars []api.Var) *work {
	w := &work{cells: map[string]cell{}}
	for _, name := range arith.Names(x) {
		w.cells[name] = cell{}
	}
	for _, v := range vars {
		if _, ok := w.cells[v.Name]; ok {
			w.cells[v.Name] = cell{came: v}
		}
	}
	return w
}

// fresh: the variables that were assigned, as they are now.
func (w *work) fresh() []api.Var {
	var l []api.Var
	for _, name := range w.names {
		l = append(l, api.Var{Name: name, Text: number.Print(w.cells[name].n)})
	}
	return l
}

// value works x out, which arith.Check has found to be an expression.
func (w *work) value(x api.Sum) int {
	k := x.Kids
	switch x.Op {
	case "":
		return w.leaf(x)
	case "!":
		return truth(w.value(k[0]) == 0)
	case "~":
		return ^w.value(k[0])
	case "neg":
		return -w.value(k[0])
	case "&&":
		return truth(w.value(k[0]) != 0 && w.value(k[1]) != 0)
	case "||":
		return truth(w.value(k[0]) != 0 || w.value(k[1]) != 0)
	case "?:":
		if w.value(k[0]) != 0 {
			return w.value(k[1])
		}
		return w.value(k[2])
	case "=":
		return w.assign(k[0].Name, w.value(k[1]))
	case "*=", "/=", "%=", "+=", "-=", "<<=", ">>=", "&=", "^=", "|=":
		_, is := w.change(k[0].Name, func(n int) int { return joined(x.Op[:len(x.Op)-1], n, w.value(k[1])) })
		return is
	case "pre++", "pre--", "post++", "post--":
		return w.step(x.Op, k[0].Name)
	}
	// Go does the calls among a call's arguments from the left: so the left kid is first.
	return joined(x.Op, w.value(k[0]), w.value(k[1]))
}

// leaf: a number, or a variable's number.
func (w *work) leaf(x api.Sum) int {
	if x.Name == "" {
		return x.N
	}
	return w.read(x.Name)
}

// read: the variable's number as it is now.
func (w *work) read(name string) int {
	c := w.cells[name]
	if c.set {
		return c.n
	}
	return told(c.came)
}

// assign makes n the variable's number, and answers it.
func (w *work) assign(name string, n int) int {
	if !w.cells[name].set {
		w.names = append(w.names, name)
	}
	w.cells[name] = cell{set: true, n: n}
	return n
}

// change assigns the variable what is made of its number, which is read ahead of that: what it was, and what it is.
func (w *work) change(name string, made func(n int) int) (was, is int) {
	was = w.read(name)
	return was, w.assign(name, made(was))
}

// step adds 1 to the variable, or takes 1 off.
func (w *work) step(op, name string) int {
	by := 1
	if strings.HasSuffix(op, "--") {
		by = -1
	}
	was, is := w.change(name, func(n int) int { return n + by })
	if strings.HasPrefix(op, "post") {
		return was
	}
	return is
}

// joined: what an operator makes of two numbers, both of which it needs.
func joined(op string, a, b int) int {
	switch op {
	case "*":
		return a * b
	case "/":
		return a / divisor(b)
	case "%":
		return a % divisor(b)
	case "+":
		return a + b
	case "-":
		return a - b
	case "<<":
		return a << places(b)
	case ">>":
		return a >> places(b)
	case "<":
		return truth(a < b)
	case "<=":
		return truth(a <= b)
	case ">":
		return truth(a > b)
	case ">=":
		return truth(a >= b)
	case "==":
		return truth(a == b)
	case "!=":
		return truth(a != b)
	case "&":
		return a & b
	case "^":
		return a ^ b
	case "|":
		return a | b
	case "**":
		return sound(number.Power(a, b))
	}
	return b // of a comma
}

// divisor: b, which may not be 0.
func divisor(b int) int {
	if b == 0 {
		panic(fault{api.ErrZero})
	}
	return b
}

// places: by how many places to shift: the rest of b is from 0 on, of a b below 0 too.
func places(b int) uint {
	return uint(b) % 64
}

// told: the number that a variable's text tells.
func told(v api.Var) int {
	if v.Array {
		panic(fault{api.ErrSyntax})
	}
	if v.Text == "" {
		return 0
	}
	digits, minus := strings.CutPrefix(strings.Trim(v.Text, " \t"), "-")
	n := sound(number.Literal(digits))
	if minus {
		return -n
	}
	return n
}

// sound: the number, if there is no error beside it.
func sound(n int, e api.Errno) int {
	if e != api.OK {
		panic(fault{e})
	}
	return n
}

// truth: 1 of what is so, 0 of what is not.
func truth(so bool) int {
	if so {
		return 1
	}
	return 0
}
