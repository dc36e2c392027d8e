package calc

import (
	"math"
	"math/rand"
	"strconv"
	"strings"
	"testing"
	"time"

	"cowrie/api"
	"cowrie/arith"
)

// TestJoins: P6.1, each operator of two on numbers at which something might turn over.
func TestJoins(t *testing.T) {
	all := edges()
	for _, name := range joins {
		for _, a := range all {
			for _, b := range all {
				want, fault := wanted(name, a, b)
				n, l, e := Eval(op(name, valued(a), valued(b)), nil)
				if n != want || len(l) != 0 || e != fault {
					t.Errorf("P6.1: %d %s %d: %d, %s, %d, want %d, %d", a, name, b, n, shape(l), e, want, fault)
				}
			}
		}
	}
}

// TestChanges: P6.1, an assignment with an operator is that operator of the variable's number; an error leaves the variable.
func TestChanges(t *testing.T) {
	all := edges()
	for _, name := range assigns[1:] {
		for _, a := range all {
			for _, b := range all {
				vars := []api.Var{text("y", "1"), text("x", strconv.Itoa(a)), text("z", "2")}
				want, fault := wanted(strings.TrimSuffix(name, "="), a, b)
				x := op(name, v("x"), valued(b))
				if fault != api.OK {
					fails(t, x, vars, fault)
					continue
				}
				n, l, e := Eval(x, vars)
				if n != want || shape(l) != shape([]api.Var{vars[0], text("x", strconv.Itoa(want)), vars[2]}) || e != api.OK {
					t.Errorf("P6.1: %d %s %d: %d, %s, %d, want %d", a, name, b, n, shape(l), e, want)
				}
			}
		}
	}
}

// TestSigns: P6.1, operators of one.
func TestSigns(t *testing.T) {
	for _, a := range edges() {
		vars := []api.Var{text("x", strconv.Itoa(a))}
		for _, c := range []struct {
			name      string
			want, now int
		}{
			{"!", one(a == 0), a}, {"~", -1 - a, a}, {"neg", 0 - a, a},
			{"pre++", a + 1, a + 1}, {"pre--", a - 1, a - 1}, {"post++", a, a + 1}, {"post--", a, a - 1},
		} {
			n, l, e := Eval(op(c.name, v("x")), vars)
			if n != c.want || shape(l) != shape([]api.Var{text("x", strconv.Itoa(c.now))}) || e != api.OK {
				t.Errorf("P6.1: %s of %d: %d, %s, %d, want %d, %d", c.name, a, n, shape(l), e, c.want, c.now)
			}
		}
	}
}

// TestEdges: P6.1, the edges that the document names, number by number.
func TestEdges(t *testing.T) {
	const least = "-9223372036854775808"
	vars := []api.Var{text("m", least)}
	for _, c := range []struct {
		s    string
		want int
	}{
		{"", 0}, {" \n", 0}, {"7", 7}, {"0x1f", 31}, {"010", 8}, {"18446744073709551615", -1},
		{"9223372036854775807 + 1", math.MinInt64}, {"m - 1", math.MaxInt64}, {"9223372036854775807 * 2", -2}, {"-m", math.MinInt64},
		{"m / -1", math.MinInt64}, {"m % -1", 0}, {"m", math.MinInt64}, {"~m", math.MaxInt64},
		{"7 / 2", 3}, {"-7 / 2", -3}, {"7 / -2", -3}, {"-7 / -2", 3}, {"7 % 2", 1}, {"-7 % 2", -1}, {"7 % -2", 1}, {"-7 % -2", -1}, {"0 / 5", 0}, {"-1 / 2", 0},
		{"1 << 63", math.MinInt64}, {"1 << 64", 1}, {"1 << 65", 2}, {"1 << -1", math.MinInt64}, {"1 << -64", 1}, {"1 << m", 1}, {"3 << 63", math.MinInt64},
		{"m >> 63", -1}, {"m >> 64", math.MinInt64}, {"-1 >> 5", -1}, {"-8 >> 1", -4}, {"8 >> -1", 0}, {"m >> -1", -1}, {"-7 >> 1", -4},
		{"2 ** 10", 1024}, {"2 ** 63", math.MinInt64}, {"2 ** 64", 0}, {"0 ** 0", 1}, {"-3 ** 3", -27}, {"3 ** 41", -420491770248316829},
		{"5 > 3", 1}, {"3 > 5", 0}, {"3 >= 3", 1}, {"3 < 3", 0}, {"3 <= 3", 1}, {"5 == 5", 1}, {"5 != 5", 0}, {"-1 < 0", 1}, {"m < 0", 1},
		{"!0", 1}, {"!5", 0}, {"!-1", 0}, {"5 && 7", 1}, {"5 && 0", 0}, {"0 && 7", 0}, {"5 || 0", 1}, {"0 || -7", 1}, {"0 || 0", 0},
		{"1 ? 2 : 3", 2}, {"0 ? 2 : 3", 3}, {"-1 ? 2 : 3", 2}, {"1, 2, 3", 3}, {"1 + 2 * 3", 7}, {"(1 + 2) * 3", 9}, {"10 - 2 - 3", 5}, {"2 ** 3 ** 2", 512},
	} {
		evals(t, c.s, vars, c.want, vars...)
	}
	for _, c := range []struct {
		s    string
		want api.Errno
	}{
		{"1 / 0", api.ErrZero}, {"1 % 0", api.ErrZero}, {"0 / 0", api.ErrZero}, {"m / (1 - 1)", api.ErrZero}, {"1 / none", api.ErrZero}, {"n /= 0", api.ErrZero}, {"n %= 0", api.ErrZero},
		{"2 ** -1", api.ErrRange}, {"1 ** m", api.ErrRange}, {"0 ** -1", api.ErrRange},
	} {
		refuses(t, c.s, vars, c.want)
	}
}

// TestNumbers: P6.1, the number of a variable.
func TestNumbers(t *testing.T) {
	for _, c := range []struct {
		s    string
		want int
	}{
		{"", 0}, {"0", 0}, {"5", 5}, {"-5", -5}, {" 5", 5}, {"5\t", 5}, {" \t 5 \t", 5}, {" -5 ", -5}, {"-0", 0},
		{"010", 8}, {"-010", -8}, {"00", 0}, {"0x1f", 31}, {"0X1F", 31}, {"-0x1f", -31}, {"18446744073709551615", -1}, {"-18446744073709551615", 1},
		{"9223372036854775808", math.MinInt64}, {"-9223372036854775808", math.MinInt64}, {"18446744073709551616", 0}, {strings.Repeat("0", 1<<15), 0}, {strings.Repeat(" ", 1<<15) + "9", 9},
	} {
		vars := []api.Var{text("x", c.s)}
		evals(t, "x", vars, c.want, vars...)
		evals(t, "x + 1", vars, c.want+1, vars...)
		if n, e := textNumber(c.s); n != c.want || e != api.OK {
			t.Errorf("the test's own number of %.30q: %d, %d", c.s, n, e)
		}
	}
	for _, s := range []string{" ", "\t", "-", "--5", "+5", "- 5", "-\t5", "5 5", "5-", "x", "1x", "08", "0x", "-0x", "0xg", "5\n", "\n5", "\n", "\r5", "\x00", "5\x00", "1+1", "x y", "5.0", "1e3", "$x", "\xa05", "(5)", "2#1"} {
		vars := []api.Var{text("x", s), text("y", "1")}
		for _, x := range []string{"x", "x + 1", "x += 1", "x++", "--x", "y = x", "x && 1", "!x", "-x", "x ? 1 : 2", "y++, x", "x, y++", "x *= 0"} {
			refuses(t, x, vars, api.ErrSyntax)
		}
		if _, e := textNumber(s); e != api.ErrSyntax {
			t.Errorf("the test's own number of %q: %d", s, e)
		}
	}
	evals(t, "x", nil, 0)
	evals(t, "x + y + 3", []api.Var{text("xx", "9"), text("X", "8"), text("", "7")}, 3, text("xx", "9"), text("X", "8"), text("", "7"))
}

// TestNumbersShort: P6.1, the number of every short text.
func TestNumbersShort(t *testing.T) {
	for _, s := range spans("07 \t-+xXaf8\n\x00g", 4) {
		want, fault := textNumber(s)
		if n, _, e := Eval(v("x"), []api.Var{text("x", s)}); n != want || e != fault {
			t.Errorf("P6.1: the number of %q: %d, %d, want %d, %d", s, n, e, want, fault)
		}
	}
}

// TestArrays: P6.1, an array has no number, whatever is in it; what is assigned takes its place.
func TestArrays(t *testing.T) {
	for _, a := range []api.Var{list("a"), list("a", "5"), list("a", "1", "2"), {Name: "a", Text: "5", Array: true}} {
		vars := []api.Var{text("b", "1"), a}
		for _, s := range []string{"a", "a + 1", "a += 1", "a++", "--a", "b = a", "b = 2, a"} {
			refuses(t, s, vars, api.ErrSyntax)
		}
		evals(t, "a = 5", vars, 5, text("b", "1"), text("a", "5"))
		evals(t, "a = 5, a + 1", vars, 6, text("b", "1"), text("a", "5"))
		evals(t, "0 && a", vars, 0, vars...)
	}
}

// TestLast: P6.1, of several of a name the last counts; what is assigned stands at the first one's place, alone; others stay as they are.
func TestLast(t *testing.T) {
	vars := []api.Var{text("x", "1"), text("y", "2"), text("x", "bad"), text("y", "3"), text("x", "4")}
	evals(t, "x * 10 + y", vars, 43, vars...)
	evals(t, "x = 7", vars, 7, text("x", "7"), text("y", "2"), text("y", "3"))
	evals(t, "x += 7", vars, 11, text("x", "11"), text("y", "2"), text("y", "3"))
	evals(t, "z = y++", vars, 3, text("x", "1"), text("y", "4"), text("x", "bad"), text("x", "4"), text("z", "3"))
	refuses(t, "x", []api.Var{text("x", "1"), list("x", "2")}, api.ErrSyntax)
	refuses(t, "x", []api.Var{text("x", "1"), text("x", "bad")}, api.ErrSyntax)
	evals(t, "x", []api.Var{list("x", "2"), text("x", "1")}, 1, list("x", "2"), text("x", "1"))
	evals(t, "x", []api.Var{text("x", "1"), text("x", "")}, 0, text("x", "1"), text("x", ""))
}

// TestOrder: P6.1, what is worked out ahead of what, and what is not at all.
func TestOrder(t *testing.T) {
	evals(t, "x = 2 + 3", nil, 5, text("x", "5"))
	evals(t, "x = y = 3", nil, 3, text("y", "3"), text("x", "3"))
	evals(t, "(x = 1) + (y = 2)", nil, 3, text("x", "1"), text("y", "2"))
	evals(t, "x + (x = 5)", []api.Var{text("x", "1")}, 6, text("x", "5"))
	evals(t, "(x = 5) + x", []api.Var{text("x", "1")}, 10, text("x", "5"))
	evals(t, "x++ + x++", nil, 1, text("x", "2"))
	evals(t, "++x * ++x", nil, 2, text("x", "2"))
	evals(t, "x-- - --x", nil, 2, text("x", "-2"))
	evals(t, "x += (x = 3)", []api.Var{text("x", "1")}, 4, text("x", "4"))
	evals(t, "x += x++", []api.Var{text("x", "1")}, 2, text("x", "2"))
	evals(t, "x = x++", []api.Var{text("x", "1")}, 1, text("x", "1"))
	evals(t, "y += (x = 1)", nil, 1, text("x", "1"), text("y", "1"))
	evals(t, "x = 1, x += 2, x *= x", nil, 9, text("x", "9"))
	evals(t, "x = 010, x", nil, 8, text("x", "8"))
	evals(t, "x = -5", nil, -5, text("x", "-5"))
	evals(t, "x = 0", nil, 0, text("x", "0"))
	evals(t, "x = 0x7f", []api.Var{text("x", "bad")}, 127, text("x", "127"))
	evals(t, "x++", []api.Var{text("x", "")}, 0, text("x", "1"))
	evals(t, "--x", nil, -1, text("x", "-1"))
	for _, s := range []string{"0 && (x = 1)", "0 && 1 / 0", "0 && bad", "0 && 2 ** -1"} {
		evals(t, s, []api.Var{text("bad", "b")}, 0, text("bad", "b"))
	}
	for _, s := range []string{"1 || (x = 1)", "1 || 1 / 0", "-1 || bad", "1 ? 1 : (x = 2)", "1 ? 1 : 1 / 0", "0 ? bad : 1", "0 ? x++ : 1", "0 ? x = 2 : 1"} {
		evals(t, s, []api.Var{text("bad", "b")}, 1, text("bad", "b"))
	}
	evals(t, "1 && (x = 5)", nil, 1, text("x", "5"))
	evals(t, "0 || (x = 0)", nil, 0, text("x", "0"))
	evals(t, "(x = 0) && (y = 1) || (z = 2)", nil, 1, text("x", "0"), text("z", "2"))
	evals(t, "x++ ? x : -x", nil, -1, text("x", "1"))
	evals(t, "(x = 3) ? (y = x) : (z = x)", nil, 3, text("x", "3"), text("y", "3"))
	vars := []api.Var{text("bad", "b"), text("x", "1")}
	for s, want := range map[string]api.Errno{
		"bad + 1 / 0": api.ErrSyntax, "1 / 0 + bad": api.ErrZero, "bad / 0": api.ErrSyntax, "0 / bad": api.ErrSyntax, "2 ** -1 + bad": api.ErrRange, "bad + 2 ** -1": api.ErrSyntax,
		"1 / 0 + 2 ** -1": api.ErrZero, "2 ** -1 / 0": api.ErrRange, "(2 ** -1) ** (1 / 0)": api.ErrRange, "2 ** (1 / 0)": api.ErrZero, "bad += 1 / 0": api.ErrSyntax, "bad /= 0": api.ErrSyntax, "x /= bad": api.ErrSyntax,
		"x = 1 / 0": api.ErrZero, "x = 5, 1 / 0": api.ErrZero, "y = 5, bad": api.ErrSyntax, "x++ / 0": api.ErrZero, "(z = 1) / (x = 0)": api.ErrZero, "bad = 1 / 0": api.ErrZero,
		"1 && bad": api.ErrSyntax, "0 || 1 / 0": api.ErrZero, "bad ? 1 : 2": api.ErrSyntax, "1 ? 1 / 0 : 2": api.ErrZero, "bad && 1 / 0": api.ErrSyntax, "1 / 0 || bad": api.ErrZero, "1 / 0 ? bad : 2": api.ErrZero,
	} {
		refuses(t, s, vars, want)
	}
	evals(t, "bad = 5, bad + 1", vars, 6, text("bad", "5"), text("x", "1"))
}

// TestNoExpressions: P6.1, arith.Check's error goes ahead of all; the variables are as they were.
func TestNoExpressions(t *testing.T) {
	vars := []api.Var{text("x", "1"), text("x", "2"), list("a", "b", "c")}
	deep := num(1)
	for range api.MaxDeep {
		deep = op("neg", deep)
	}
	fails(t, deep, vars, api.ErrDepth)
	cycle := []api.Sum{{Op: "+"}, {Op: "neg"}}
	cycle[0].Kids, cycle[1].Kids = cycle, cycle[:1]
	fails(t, cycle[0], vars, api.ErrDepth)
	bad := op("/", num(1), num(0)) // worked out, it would be another error
	for _, x := range []api.Sum{
		op("no", num(1)), op("+"), op("+", num(1)), op("+", num(1), num(2), num(3)), op("?:", num(1), num(2)), op("neg"), op("=", num(1), num(2)), op("=", v("x")), op("pre++", num(1)), op("post--", op("neg", v("x"))),
		{N: -1}, {N: math.MinInt64}, {Name: "1x"}, {Name: "x y"}, {Name: strings.Repeat("n", api.MaxName+1)}, {Name: "x", N: 1}, {Kids: []api.Sum{{}}}, {Op: "neg", N: 1, Kids: []api.Sum{{}}}, {Op: "neg", Name: "x", Kids: []api.Sum{{}}}, {Op: "\x00"},
	} {
		fails(t, x, vars, api.ErrState)
		fails(t, x, nil, api.ErrState)
		fails(t, op(",", bad, x), vars, api.ErrState)
		fails(t, op("&&", num(0), x), vars, api.ErrState)
		fails(t, op(",", op("=", v("x"), num(5)), x), vars, api.ErrState)
	}
	if n, l, e := Eval(api.Sum{}, nil); n != 0 || len(l) != 0 || e != api.OK {
		t.Error("P6.1: Eval of nothing:", n, l, e)
	}
	full := op("neg", num(1))
	for range api.MaxDeep - 2 {
		full = op("neg", full)
	}
	if n, _, e := Eval(full, nil); n != -1 || e != api.OK {
		t.Error("P6.1: Eval of the deepest:", n, e)
	}
}

// TestRandom: P6.1, expressions of all kinds, against one that works them out step by step.
func TestRandom(t *testing.T) {
	r := rand.New(rand.NewSource(6))
	texts := []string{"", "0", "1", "-1", " 7 ", "0x10", "010", "bad", "9223372036854775807", "-9223372036854775808"}
	good, faults := 0, map[api.Errno]int{}
	for range 60000 {
		x := random(r, 1+r.Intn(7))
		var vars []api.Var
		for range r.Intn(7) {
			name := []string{"a", "b", "c", "d", "f"}[r.Intn(5)]
			if r.Intn(12) == 0 {
				vars = append(vars, list(name, "1", "2"))
				continue
			}
			vars = append(vars, text(name, texts[r.Intn(len(texts))]))
		}
		before := shape(vars)
		s := slow{vars: vars}
		want, fault := s.eval(x)
		if fault != api.OK {
			want, s.vars = 0, vars
			faults[fault]++
		} else {
			good++
		}
		n, l, e := Eval(x, vars)
		if n != want || shape(l) != shape(s.vars) || e != fault || shape(vars) != before {
			told, _ := arith.Print(x)
			t.Fatalf("P6.1: %s of %s: %d, %s, %d, want %d, %s, %d", told, before, n, shape(l), e, want, shape(s.vars), fault)
		}
	}
	if good < 20000 || faults[api.ErrZero] < 500 || faults[api.ErrSyntax] < 500 || faults[api.ErrRange] < 50 {
		t.Error("P6.1: too few of a kind:", good, faults)
	}
}

// TestText: P6.2, arith.Parse's error with the variables as they were, in each dialect; else Eval.
func TestText(t *testing.T) {
	vars := []api.Var{text("x", "2"), text("x", "3"), list("a", "b"), text("bad", "b")}
	for _, c := range []struct {
		s    string
		bash bool
		want api.Errno
	}{
		{"1 +", true, api.ErrSyntax}, {"1 +", false, api.ErrSyntax}, {"x = 1, )", true, api.ErrSyntax}, {"1 / 0 )", false, api.ErrSyntax}, {"08", true, api.ErrSyntax}, {"5 = 3", false, api.ErrSyntax}, {"x\x00", true, api.ErrSyntax},
		{"2 ** 3", false, api.ErrSyntax}, {"x++", false, api.ErrSyntax}, {"x--", false, api.ErrSyntax}, {"--5", true, api.ErrSyntax},
		{strings.Repeat("(", 61), false, api.ErrDepth}, {strings.Repeat("-", 61) + "1", false, api.ErrDepth}, {strings.Repeat(" ", api.MaxText+1), true, api.ErrLong}, {strings.Repeat(")", api.MaxText+1), false, api.ErrLong},
		{"1 / 0", false, api.ErrZero}, {"x = 4, 1 % 0", true, api.ErrZero}, {"2 ** -1", true, api.ErrRange}, {"bad", false, api.ErrSyntax}, {"a", true, api.ErrSyntax}, {"$bad", false, api.ErrSyntax},
	} {
		n, l, e := Text(c.s, vars, c.bash)
		if n != 0 || shape(l) != shape(vars) || e != c.want {
			t.Errorf("P6.2: Text(%.40q, %t): %d, %s, %d, want %d", c.s, c.bash, n, shape(l), e, c.want)
		}
	}
	for _, none := range [][]api.Var{nil, {}} {
		refuses(t, "1 +", none, api.ErrSyntax)
		refuses(t, "x = 1, 1 / 0", none, api.ErrZero)
	}
	for _, c := range []struct {
		s    string
		bash bool
		want int
		x    string
	}{
		{"x = 2 + 3", false, 5, "5"}, {"x = 2 + 3", true, 5, "5"}, {"$x + 1", false, 5, ""}, {"++x", true, 5, "5"}, {"++x", false, 4, ""}, {"--x", true, 3, "3"}, {"--x", false, 4, ""}, {"2 ** 3", true, 8, ""},
		{"x++", true, 4, "5"}, {"5 - -x", false, 9, ""}, {"5--x", false, 9, ""}, {"", false, 0, ""}, {"", true, 0, ""}, {" \t\n", true, 0, ""}, {strings.Repeat(" ", api.MaxText-1) + "7", true, 7, ""},
		{"x <<= 2", false, 16, "16"}, {"(x) = 3", false, 3, "3"}, {"x > 3 ? x : 0", false, 4, ""},
	} {
		given := []api.Var{text("y", "1"), text("x", "4")}
		after := []api.Var{text("y", "1"), text("x", "4")}
		if c.x != "" {
			after[1].Text = c.x
		}
		n, l, e := Text(c.s, given, c.bash)
		if n != c.want || shape(l) != shape(after) || e != api.OK {
			t.Errorf("P6.2: Text(%.40q, %t): %d, %s, %d, want %d, %s", c.s, c.bash, n, shape(l), e, c.want, shape(after))
		}
	}
}

// TestLarge: P1, what is wide and what is long ends soon.
func TestLarge(t *testing.T) {
	begun := time.Now()
	var vars []api.Var
	for n := range 1 << 17 {
		vars = append(vars, text("v"+strconv.Itoa(n), strconv.Itoa(n)))
	}
	var add func(from, to int) api.Sum
	add = func(from, to int) api.Sum {
		if to-from == 1 {
			return op("+=", v("v"+strconv.Itoa(from)), v("v"+strconv.Itoa(from+1)))
		}
		half := (from + to) / 2
		return op("+", add(from, half), add(half, to))
	}
	const size = 1 << 15
	n, l, e := Eval(add(1<<17-size/2, 1<<17+size/2), vars)
	want, s := 0, 0
	for i := range size {
		at := 1<<17 - size/2 + i
		s = 0
		if at < 1<<17 {
			s += at
		}
		if at+1 < 1<<17 {
			s += at + 1
		}
		want += s
	}
	if n != want || len(l) != 1<<17+size/2 || e != api.OK || l[len(l)-1].Name != "v"+strconv.Itoa(1<<17+size/2-1) {
		t.Error("P6.1: a wide expression:", n, len(l), e, want)
	}
	long := []api.Var{text("x", "1"+strings.Repeat("0", 1<<20)), text("x", strings.Repeat(" ", 1<<20)+"0x"+strings.Repeat("f", 1<<20))}
	if n, l, e := Eval(op("neg", v("x")), long); n != 1 || len(l) != 2 || e != api.OK {
		t.Error("P6.1: a long text:", n, len(l), e)
	}
	if took := time.Since(begun); took > 20*time.Second {
		t.Error("P1: it took", took)
	}
}
