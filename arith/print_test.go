package arith

import (
	"math"
	"math/rand"
	"slices"
	"strings"
	"testing"
	"time"
	"unsafe"

	"cowrie/api"
)

// TestCheck: P5.1, each operator with as many kids as it has, and with others; what no expression has.
func TestCheck(t *testing.T) {
	x, y := v("x"), num(1)
	check := func(s api.Sum, want api.Errno) {
		t.Helper()
		for _, in := range []api.Sum{s, op("neg", s), op("?:", y, y, s), op("=", x, s), op("+", op("*", y, s), y)} {
			if e := Check(in); e != want {
				t.Errorf("P5.1: Check(%s): %d, want %d", shape(in), e, want)
			}
			text, e := Print(in)
			if e != want || want != api.OK && text != "" {
				t.Errorf("P5.2: Print(%s): %q, %d, want %d", shape(in), text, e, want)
			}
		}
	}
	for _, o := range ops() {
		for n := range 6 {
			s := api.Sum{Op: o, Kids: []api.Sum{x, y, y, y, y}[:min(n, 5)]}
			want := api.ErrState
			if n == count(o) {
				want = api.OK
			}
			check(s, want)
		}
		first := api.Sum{Op: o, Kids: []api.Sum{y, y, y}[:count(o)]}
		for _, k := range []api.Sum{y, op("neg", x), op("=", x, y), op(",", y, x)} {
			first.Kids[0] = k
			want := api.OK
			if isStep(o) || isAssign(o) {
				want = api.ErrState
			}
			check(first, want)
		}
		full := api.Sum{Op: o, Kids: []api.Sum{x, y, y}[:count(o)]}
		for _, n := range []int{1, -1} {
			wrong := copied(full)
			wrong.N = n
			check(wrong, api.ErrState)
		}
		wrong := copied(full)
		wrong.Name = "x"
		check(wrong, api.ErrState)
	}
	for _, s := range []api.Sum{{}, {Kids: []api.Sum{}}, num(0), num(math.MaxInt64), v("a_1"), v("_"), v("if"), v(strings.Repeat("n", api.MaxName))} {
		check(s, api.OK)
	}
	for _, s := range []api.Sum{
		num(-1), num(math.MinInt64), v("1"), v("a b"), v("$x"), v(" x"), v("x\x00"), v("é"), v("x[1]"), v(strings.Repeat("n", api.MaxName+1)),
		{Name: "x", N: 1}, {Name: "x", N: -1}, {Kids: []api.Sum{y}}, {Name: "x", Kids: []api.Sum{y}}, {N: 1, Kids: []api.Sum{{}}},
		op("++", x), op("--", x), op("-", x), op("+", x), op("pre", x), op("post", x), op("pre+", x), op("NEG", x), op(" ", x), op("()", x),
		op("?", y, y, y), op(":", y, y), op("**=", x, y), op("===", x, y), op("&&=", x, y), op("<>", x, y), op("+ ", x, y), op("\x00", x, y), op("x", y), op("pre**", x), op("?:", y, y),
	} {
		check(s, api.ErrState)
	}
	for _, s := range []api.Sum{op("pre++", v("1")), op("post--", v("")), op("=", v("a b"), y)} {
		check(s, api.ErrState)
	}
}

// TestCheckDepth: P5.1, ErrDepth, which goes ahead.
func TestCheckDepth(t *testing.T) {
	for _, by := range []func(api.Sum) api.Sum{
		func(x api.Sum) api.Sum { return op("neg", x) },
		func(x api.Sum) api.Sum { return op("+", num(1), x) },
		func(x api.Sum) api.Sum { return op("-", x, num(1)) },
		func(x api.Sum) api.Sum { return op("?:", num(1), x, num(1)) },
		func(x api.Sum) api.Sum { return op("no operator", x) },
	} {
		right := Check(by(num(1)))
		for n, want := range map[int]api.Errno{api.MaxDeep - 2: right, api.MaxDeep - 1: right, api.MaxDeep: api.ErrDepth, 998: api.ErrDepth, 999: api.ErrDepth, 5000: api.ErrDepth} {
			for _, leaf := range []api.Sum{num(1), num(-1)} {
				x := chain(n, leaf, by)
				asked := want
				if asked == api.OK && leaf.N < 0 {
					asked = api.ErrState
				}
				if e := Check(x); e != asked {
					t.Errorf("P5.1: Check of %d times %q: %d, want %d", n, x.Op, e, asked)
				}
				if s, e := Print(x); e != asked || asked != api.OK && s != "" {
					t.Errorf("P5.2: Print of %d times %q: %.20q, %d, want %d", n, x.Op, s, e, asked)
				}
				if got := Deep(x); got != min(n+1, 1000) {
					t.Errorf("P5.1: Deep of %d times %q: %d", n, x.Op, got)
				}
			}
		}
	}
	for want, x := range map[int]api.Sum{
		1: {}, 2: op("+", num(1), num(2)), 3: op("+", num(1), op("neg", num(1))), 4: op("?:", num(1), op("neg", op("!", v("x"))), op("~", v("x"))),
	} {
		if got := Deep(x); got != want || Deep(op("no operator", num(1), x, num(1))) != want+1 {
			t.Errorf("P5.1: Deep(%s): %d, want %d", shape(x), got, want)
		}
	}
}

// TestAsked: P5.1, Plain, Writes and Names.
func TestAsked(t *testing.T) {
	for _, o := range append(ops(), "", "x", "no operator", "==", "<=") {
		x := api.Sum{Op: o, Kids: []api.Sum{v("x"), num(1), num(2)}}
		plain, writes := o != "**" && !isStep(o), isStep(o) || isAssign(o)
		for _, in := range []api.Sum{x, op("+", x, num(1)), op("+", num(1), x), op("?:", num(1), num(1), op("neg", x))} {
			if Plain(in) != plain {
				t.Errorf("P5.1: Plain(%s): %t", shape(in), !plain)
			}
			if Writes(in) != writes {
				t.Errorf("P5.1: Writes(%s): %t", shape(in), !writes)
			}
		}
	}
	for s, want := range map[string]string{
		"": "", "1": "", "x": "x", "x + y": "x y", "y + x": "y x", "x = y = x + z": "x y z", "b ? a : c ? b : d": "b a c d", "x + x + x": "x",
		"(a, b), c++": "a b c", "--z * -(y ** x)": "z y x", "X + x": "X x", "1 ? 2 : n": "n",
	} {
		x, _, e := Parse(s, true)
		if got := Names(x); e != api.OK || strings.Join(got, " ") != want {
			t.Errorf("P5.1: Names of %q: %q, want %q", s, got, want)
		}
	}
	odd := api.Sum{Op: "no operator", Name: "b", Kids: []api.Sum{{Name: "a b", Kids: []api.Sum{v("c"), v("b")}}, v("a")}}
	if got := Names(odd); !slices.Equal(got, []string{"b", "a b", "c", "a"}) {
		t.Errorf("P5.1: Names(%s): %q", shape(odd), got)
	}
}

// TestSame: P5.1, Same against shapes, for all pairs of some.
func TestSame(t *testing.T) {
	x, y := v("x"), num(1)
	l := []api.Sum{
		{}, y, num(2), num(-1), x, v("y"), op("+", x, y), op("+", y, x), op("+", x, y, y), op("-", x, y), op("neg", x), op("neg", y), op("!", x), {Op: "+"}, {Op: "neg"},
		{Kids: []api.Sum{{}}}, {Kids: []api.Sum{x}}, {Name: "x", N: 1}, {Op: "neg", Name: "x", Kids: []api.Sum{x}}, {Op: "neg", N: 1, Kids: []api.Sum{x}},
		op("+", x, op("+", x, y)), op("+", op("+", x, y), y), op("?:", x, y, x), op("?:", x, y, y), op("=", x, y), op("==", x, y), op("pre++", x), op("post++", x),
	}
	for i, a := range l {
		for j, b := range l {
			if got := Same(a, copied(b)); got != (i == j) {
				t.Errorf("P5.1: Same(%s, %s): %t", shape(a), shape(b), got)
			}
		}
	}
	if !Same(api.Sum{N: 3, Kids: []api.Sum{}}, num(3)) || !Same(op("neg", x), api.Sum{Op: "neg", Kids: []api.Sum{{Name: "x", Kids: []api.Sum{}}}}) {
		t.Error("P5.1: Same of a nil list and an empty one")
	}
}

// printed asks that Print's text is read as x: by bash, and by sh if it's plain.
func printed(t *testing.T, x api.Sum) {
	t.Helper()
	s, e := Print(x)
	y, n, f := Parse(s, true)
	if e != api.OK || f != api.OK || n != len(s) || shape(y) != shape(x) || !Same(x, y) {
		t.Fatalf("P5.2: Print(%s): %.90q, %d; of that Parse makes %.90s, %d, %d", shape(x), s, e, shape(y), n, f)
	}
	if y, n, f = Parse(s, false); !has(x) && (f != api.OK || n != len(s) || shape(y) != shape(x)) {
		t.Fatalf("P5.2: Print(%s): %.90q; of that Parse of sh makes %.90s, %d, %d", shape(x), s, shape(y), n, f)
	}
}

// nested hands out each operator within each within each, at each place that may be.
func nested(do func(x api.Sum)) {
	with := func(o string, at int, kid api.Sum) (api.Sum, bool) {
		x := api.Sum{Op: o}
		for i := range count(o) {
			x.Kids = append(x.Kids, []api.Sum{v("x"), num(1), v("z")}[i])
		}
		if at == 0 && (isStep(o) || isAssign(o)) {
			return x, false
		}
		x.Kids[at] = kid
		return x, true
	}
	for _, a := range ops() {
		for _, b := range ops() {
			for _, c := range ops() {
				inner, _ := with(c, count(c)-1, num(5))
				if isStep(c) {
					inner = op(c, v("x"))
				}
				for i := range count(b) {
					middle, ok := with(b, i, inner)
					for j := range count(a) {
						if outer, fine := with(a, j, middle); ok && fine {
							do(outer)
						}
					}
				}
			}
		}
	}
}

// TestPrint: P5.2, what stands by itself, and each operator within each within each.
func TestPrint(t *testing.T) {
	for _, x := range []api.Sum{{}, num(7), num(math.MaxInt64), v("x"), v(strings.Repeat("n", api.MaxName)), {N: 2, Kids: []api.Sum{}}} {
		printed(t, x)
	}
	seen := 0
	nested(func(x api.Sum) {
		printed(t, x)
		seen++
	})
	if seen < 100000 {
		t.Error("P5.2: too few expressions:", seen)
	}
}

// TestPrintRandom: P5.2, expressions of up to 25 within each other.
func TestPrintRandom(t *testing.T) {
	r := rand.New(rand.NewSource(25))
	deep := 0
	for n := range 20000 {
		x := random(r, 1+n%9)
		// One chain goes on to the full depth, so that texts stay short.
		for depth(x) < 25 && n%3 == 0 {
			o := ops()[r.Intn(len(ops()))]
			y := api.Sum{Op: o}
			for range count(o) {
				y.Kids = append(y.Kids, random(r, 1))
			}
			if isStep(o) {
				continue
			}
			at := r.Intn(count(o))
			if isAssign(o) {
				y.Kids[0], at = v("x"), 1
			}
			y.Kids[at] = x
			x = y
		}
		s, _ := Print(x)
		if len(s) > api.MaxText {
			continue
		}
		printed(t, x)
		if depth(x) == 25 {
			deep++
		}
	}
	if deep < 2000 {
		t.Error("P5.2: too few deep expressions:", deep)
	}
}

// TestPrintDeep: P5.2, what takes the most parentheses, 25 deep; what needs none is read up to MaxDeep.
func TestPrintDeep(t *testing.T) {
	list := func(x api.Sum) api.Sum { return op(",", num(1), x) }
	for _, o := range ops() {
		if isStep(o) {
			continue
		}
		for at := range count(o) {
			if at == 0 && isAssign(o) {
				continue
			}
			by := func(x api.Sum) api.Sum {
				y := api.Sum{Op: o, Kids: []api.Sum{v("x"), v("y"), v("z")}[:count(o)]}
				y = copied(y)
				y.Kids[at] = x
				return y
			}
			printed(t, chain(24, num(1), by))
			printed(t, chain(12, num(1), func(x api.Sum) api.Sum { return by(list(x)) }))
			printed(t, chain(12, num(1), func(x api.Sum) api.Sum { return list(by(x)) }))
			printed(t, chain(12, num(1), func(x api.Sum) api.Sum { return op("neg", by(x)) }))
			printed(t, chain(8, num(1), func(x api.Sum) api.Sum { return op("**", num(2), op("=", v("x"), by(x))) }))
		}
	}
	for _, by := range []func(api.Sum) api.Sum{
		func(x api.Sum) api.Sum { return op("neg", x) },
		func(x api.Sum) api.Sum { return op("!", op("neg", x)) },
		func(x api.Sum) api.Sum { return op("=", v("x"), x) },
		func(x api.Sum) api.Sum { return op("-", x, num(1)) },
		func(x api.Sum) api.Sum { return op("?:", num(1), num(2), x) },
		func(x api.Sum) api.Sum { return op("?:", num(1), x, num(2)) },
		func(x api.Sum) api.Sum { return op("**", num(1), x) },
	} {
		x := num(1)
		for depth(by(x)) <= api.MaxDeep {
			x = by(x)
		}
		printed(t, x)
	}
}

// shorter: the texts that are s without a pair of its parentheses, or without one of its blanks.
func shorter(s string) []string {
	var l []string
	var open []int
	for i, c := range s {
		switch c {
		case '(':
			open = append(open, i)
		case ')':
			from := open[len(open)-1]
			open = open[:len(open)-1]
			l = append(l, s[:from]+s[from+1:i]+s[i+1:])
		case ' ':
			l = append(l, s[:i]+s[i+1:])
		}
	}
	return l
}

// TestPrintShort: P5.2, a text that is just short enough to be read is not printed longer: nothing of a printed text is to spare.
func TestPrintShort(t *testing.T) {
	s := "x+++y"
	for 2*len(s)+5 <= api.MaxText {
		s = "(" + s + ")*(" + s + ")"
	}
	x, _, e := Parse(s, true)
	told, f := Print(x)
	if e != api.OK || f != api.OK || len(told) > len(s) {
		t.Errorf("P5.2: a text of %d octets is printed with %d: %d, %d", len(s), len(told), e, f)
	}
	printed(t, x)
	nested(func(x api.Sum) {
		s, _ := Print(x)
		for _, less := range shorter(s) {
			if y, _, e := Parse(less, true); e == api.OK && shape(y) == shape(x) {
				t.Fatalf("P5.2: Print(%s): %q, but %q does", shape(x), s, less)
			}
		}
	})
}

// shares: does a lie in b's memory?
func shares(a, b string) bool {
	if a == "" || b == "" {
		return false
	}
	at, from := uintptr(unsafe.Pointer(unsafe.StringData(a))), uintptr(unsafe.Pointer(unsafe.StringData(b)))
	return at >= from && at < from+uintptr(len(b))
}

// texts: all texts of an expression.
func texts(x api.Sum) []string {
	l := []string{x.Op, x.Name}
	for _, k := range x.Kids {
		l = append(l, texts(k)...)
	}
	return l
}

// lists: the first places of all lists of an expression.
func lists(x api.Sum) []*api.Sum {
	l := []*api.Sum{unsafe.SliceData(x.Kids)}[:min(1, len(x.Kids))]
	for _, k := range x.Kids {
		l = append(l, lists(k)...)
	}
	return l
}

// TestParseMemory: P5.3, what Parse answers shares nothing with the text, nor with another answer, nor with itself.
func TestParseMemory(t *testing.T) {
	for _, s := range []string{"alpha", "$alpha", "alpha + beta * 18446744073709551615", "(alpha) <<= beta ? gamma++ : --delta", "alpha, alpha, (alpha == 0x1f)", "!a ** -b", "0xffffffffffffffff + 0xffffffffffffffff"} {
		given := []byte(s)
		text := unsafe.String(unsafe.SliceData(given), len(given))
		one, _, _ := Parse(text, true)
		two, _, e := Parse(text, true)
		want := shape(one)
		for _, in := range append(texts(one), texts(two)...) {
			if shares(in, text) {
				t.Errorf("P5.3: Parse(%q): %q is the text's memory", s, in)
			}
		}
		for _, in := range texts(one) {
			for _, other := range texts(two) {
				if shares(in, other) {
					t.Errorf("P5.3: Parse(%q): %q is another answer's memory", s, in)
				}
			}
		}
		all := append(lists(one), lists(two)...)
		for i, l := range all {
			if slices.Contains(all[i+1:], l) {
				t.Errorf("P5.3: Parse(%q): two lists are one", s)
			}
		}
		if string(given) != s || e != api.OK {
			t.Errorf("P5.3: Parse(%q) changed its text: %q", s, given)
		}
		for i := range given {
			given[i] = '#'
		}
		for i := range two.Kids {
			two.Kids[i] = num(99)
		}
		two.Kids = append(two.Kids, num(98))
		if shape(one) != want {
			t.Errorf("P5.3: Parse(%q): %s, but later %s", s, want, shape(one))
		}
	}
}

// TestMemory: P5.3, what is asked of an expression changes nothing of it, and shares nothing with it.
func TestMemory(t *testing.T) {
	for _, s := range []string{"0", "alpha", "alpha + beta * alpha", "x = y ? z++ : --x, 18446744073709551615 ** gamma", "- -(alpha, beta)"} {
		x, _, _ := Parse(s, true)
		before := copied(x)
		ask := func() (string, []string) {
			text, e := Print(x)
			if e != api.OK || Check(x) != api.OK || !Same(x, before) || !Same(before, x) {
				t.Errorf("P5.3: what is asked of %q", s)
			}
			Plain(x)
			Writes(x)
			if Deep(x) != depth(before) {
				t.Errorf("P5.3: Deep of %q", s)
			}
			return text, Names(x)
		}
		text, names := ask()
		again, more := ask()
		// Of texts of one octet the language itself keeps one each.
		if text != again || len(text) > 1 && shares(text, again) || !slices.Equal(names, more) || shape(x) != shape(before) {
			t.Errorf("P5.3: %q: another answer to the same question, or one that shares its memory", s)
		}
		for i, name := range names {
			if shares(name, more[i]) || slices.ContainsFunc(texts(x), func(in string) bool { return shares(name, in) || shares(text, in) }) {
				t.Errorf("P5.3: %q: %q is the expression's memory", s, name)
			}
			names[i] = "#"
		}
		if !slices.Equal(Names(x), more) || slices.Contains(more, "#") {
			t.Errorf("P5.3: %q: Names shares its answers", s)
		}
	}
}

// TestLarge: P1, what is asked of large expressions ends, and soon.
func TestLarge(t *testing.T) {
	begun := time.Now()
	wide := api.Sum{Op: ","}
	for n := range 1 << 17 {
		wide.Kids = append(wide.Kids, v("n"+strings.Repeat("x", n%60)+string(rune('a'+n%26))))
	}
	deep := chain(1<<16, v("x"), func(x api.Sum) api.Sum { return op("?:", num(-1), x, v("y")) })
	full := chain(17, v("x"), func(x api.Sum) api.Sum { return op("neg", op("-", x, x)) })
	for _, c := range []struct {
		x     api.Sum
		deep  int
		names int
		check api.Errno
	}{{wide, 2, 780, api.ErrState}, {deep, 1000, 2, api.ErrDepth}, {full, 35, 1, api.OK}} {
		if d, l, e := Deep(c.x), Names(c.x), Check(c.x); d != c.deep || len(l) != c.names || e != c.check {
			t.Errorf("P1: a large expression: Deep %d, %d Names, Check %d", d, len(l), e)
		}
		if !Plain(c.x) || Writes(c.x) || !Same(c.x, c.x) || Same(c.x, op("neg", c.x)) {
			t.Error("P1: what is asked of a large expression")
		}
		if s, e := Print(c.x); e != c.check || (s == "") != (e != api.OK) {
			t.Error("P1: Print of a large expression:", len(s), e)
		}
	}
	if took := time.Since(begun); took > 20*time.Second {
		t.Error("P1: it took", took)
	}
}

// TestAgain: P3, answers hang on the arguments alone, whatever was asked ahead.
func TestAgain(t *testing.T) {
	for range 3 {
		reads(t, "1 + 2 * x", false, "(+ 1 (* 2 x))")
		refuses(t, "1 +", false, 3, api.ErrSyntax)
		refuses(t, strings.Repeat("(", 100), true, api.MaxDeep, api.ErrDepth)
		reads(t, "x++", true, "(post++ x)")
		refuses(t, "x++", false, 3, api.ErrSyntax)
		reads(t, "", true, "0")
	}
}
