package arith

import (
	"fmt"
	"math/rand"
	"strings"
	"testing"
	"time"

	"cowrie/api"
)

// TestParse: P5.1, what both dialects have.
func TestParse(t *testing.T) {
	for _, c := range []struct{ s, want string }{
		{"", "0"}, {" ", "0"}, {" \t\n ", "0"},
		{"0", "0"}, {"7", "7"}, {" 7\n", "7"}, {"0x1f", "31"}, {"0XaB", "171"}, {"010", "8"}, {"00", "0"}, {"9223372036854775807", "9223372036854775807"},
		{"x", "x"}, {"_", "_"}, {"a_1B", "a_1B"}, {"$x", "x"}, {"$_9", "_9"}, {"neg", "neg"}, {"if", "if"}, {"x0x1", "x0x1"},
		{strings.Repeat("n", api.MaxName), strings.Repeat("n", api.MaxName)}, {"$" + strings.Repeat("n", api.MaxName), strings.Repeat("n", api.MaxName)},
		{"1 + 2 * x", "(+ 1 (* 2 x))"}, {"1+2*x", "(+ 1 (* 2 x))"}, {"\n1\t+\n2 *\tx ", "(+ 1 (* 2 x))"}, {"(1 + 2) * x", "(* (+ 1 2) x)"},
		{"((((x))))", "x"}, {"( 1 )", "1"}, {"(1)+(2)", "(+ 1 2)"}, {"$x+$y", "(+ x y)"},
		{"a, b, c", "(, (, a b) c)"}, {"a, (b, c)", "(, a (, b c))"}, {"a = 1, b = 2", "(, (= a 1) (= b 2))"},
		{"x = 2 + 3", "(= x (+ 2 3))"}, {"x = y = 3", "(= x (= y 3))"}, {"x += y -= 3", "(+= x (-= y 3))"}, {"$x = 3", "(= x 3)"},
		{"(x) = 3", "(= x 3)"}, {"+x = 3", "(= x 3)"}, {"+ + x = 3", "(= x 3)"}, {"+(+(x)) = 3", "(= x 3)"}, {"((x)) *= (y) = 3", "(*= x (= y 3))"}, {"(+$x) = 3", "(= x 3)"},
		{"x = (1, 2)", "(= x (, 1 2))"}, {"x = 1 ? 2 : 3", "(= x (?: 1 2 3))"}, {"(x = 1) + 2", "(+ (= x 1) 2)"}, {"1 + (x = 2)", "(+ 1 (= x 2))"},
		{"a ? b : c", "(?: a b c)"}, {"a ? b : c ? d : e", "(?: a b (?: c d e))"}, {"a ? b ? c : d : e", "(?: a (?: b c d) e)"}, {"(a ? b : c) ? d : e", "(?: (?: a b c) d e)"},
		{"a ? x = 1 : 2", "(?: a (= x 1) 2)"}, {"a ? x = y = 1 : 2", "(?: a (= x (= y 1)) 2)"}, {"a ? b : (x = 1)", "(?: a b (= x 1))"}, {"a ? (b, c) : d", "(?: a (, b c) d)"},
		{"a ? b : c, d", "(, (?: a b c) d)"}, {"a || b ? c || d : e || f", "(?: (|| a b) (|| c d) (|| e f))"},
		{"!x", "(! x)"}, {"~x", "(~ x)"}, {"-x", "(neg x)"}, {"+x", "x"}, {"!~-+x", "(! (~ (neg x)))"}, {"- - x", "(neg (neg x))"}, {"-+-x", "(neg (neg x))"}, {"!!x", "(! (! x))"}, {"~~x", "(~ (~ x))"},
		{"-1", "(neg 1)"}, {"+1", "1"}, {"-x * y", "(* (neg x) y)"}, {"- (x * y)", "(neg (* x y))"}, {"!x == y", "(== (! x) y)"}, {"a - -b", "(- a (neg b))"}, {"a-+b", "(- a b)"}, {"a + +b", "(+ a b)"},
		{"a<<b", "(<< a b)"}, {"a < -b", "(< a (neg b))"}, {"a<<=b", "(<<= a b)"}, {"a<=b", "(<= a b)"}, {"a>>=b", "(>>= a b)"}, {"a>=b", "(>= a b)"}, {"a==b", "(== a b)"}, {"a=!b", "(= a (! b))"}, {"a!=b", "(!= a b)"},
		{"a&&b", "(&& a b)"}, {"a&b", "(& a b)"}, {"a&=b", "(&= a b)"}, {"a||b", "(|| a b)"}, {"a|b", "(| a b)"}, {"a|=b", "(|= a b)"}, {"a^=~b", "(^= a (~ b))"}, {"a?b:c", "(?: a b c)"}, {"a!=!b", "(!= a (! b))"},
		{"1 - 2 - 3", "(- (- 1 2) 3)"}, {"1 - (2 - 3)", "(- 1 (- 2 3))"}, {"2 * 3 / 4 % 5", "(% (/ (* 2 3) 4) 5)"}, {"1 < 2 < 3", "(< (< 1 2) 3)"}, {"a&b&c", "(& (& a b) c)"},
	} {
		readsBoth(t, c.s, c.want)
	}
}

// TestDialects: P5.1, what is bash's alone, and what sh makes of its text.
func TestDialects(t *testing.T) {
	for _, c := range []struct{ s, bash, sh string }{
		{"2 ** 3", "(** 2 3)", "!3"}, {"2**3**4", "(** 2 (** 3 4))", "!2"}, {"-2 ** -3", "(** (neg 2) (neg 3))", "!4"}, {"2*3**4*5", "(* (* 2 (** 3 4)) 5)", "!4"},
		{"(2**3)**4", "(** (** 2 3) 4)", "!3"}, {"x = 2 ** 3", "(= x (** 2 3))", "!7"}, {"2** +3", "(** 2 3)", "!2"}, {"-(2**3)", "(neg (** 2 3))", "!4"},
		{"++x", "(pre++ x)", "x"}, {"--x", "(pre-- x)", "(neg (neg x))"}, {"++ $x", "(pre++ x)", "x"}, {"--\nx", "(pre-- x)", "(neg (neg x))"},
		{"x++", "(post++ x)", "!3"}, {"x--", "(post-- x)", "!3"}, {"x ++", "(post++ x)", "!4"}, {"$x\n--", "(post-- x)", "!5"},
		{"-++x", "(neg (pre++ x))", "(neg x)"}, {"! --x", "(! (pre-- x))", "(! (neg (neg x)))"}, {"- --x", "(neg (pre-- x))", "(neg (neg (neg x)))"}, {"---x", "!2", "(neg (neg (neg x)))"}, {"+++x", "!2", "x"},
		{"-x++", "(neg (post++ x))", "!4"}, {"x+++y", "(+ (post++ x) y)", "(+ x y)"}, {"x++ + ++y", "(+ (post++ x) (pre++ y))", "(+ x y)"}, {"x---y", "(- (post-- x) y)", "(- x (neg (neg y)))"},
		{"x+ ++y", "(+ x (pre++ y))", "(+ x y)"}, {"x- --y", "(- x (pre-- y))", "(- x (neg (neg y)))"}, {"x++y", "!3", "(+ x y)"}, {"x--y", "!3", "(- x (neg y))"}, {"5--3", "!1", "(- 5 (neg 3))"}, {"5++3", "!1", "(+ 5 3)"},
		{"--5", "!2", "(neg (neg 5))"}, {"++5", "!2", "5"}, {"++(x)", "!2", "x"}, {"(x)++", "!3", "!5"}, {"++x++", "!3", "!5"}, {"x++ ++", "!4", "!6"}, {"++ ++x", "!3", "x"}, {"-- -x", "!3", "(neg (neg (neg x)))"},
		{"++x = 3", "!4", "(= x 3)"}, {"x++ = 3", "!4", "!4"}, {"y = x++", "(= y (post++ x))", "!7"}, {"x++ ? y-- : --z", "(?: (post++ x) (post-- y) (pre-- z))", "!4"},
		{"++", "!2", "!2"}, {"--", "!2", "!2"}, {"1 ++", "!2", "!4"}, {"++ ", "!3", "!3"}, {"**", "!0", "!0"}, {"x **", "!4", "!3"}, {"x **= 2", "!4", "!3"}, {"x***y", "!3", "!2"},
		{"2 * * 3", "!4", "!4"}, {"x + + y", "(+ x y)", "(+ x y)"}, {"x - - y", "(- x (neg y))", "(- x (neg y))"}, {"x+=++y", "(+= x (pre++ y))", "(+= x y)"},
	} {
		for _, bash := range []bool{false, true} {
			want := c.sh
			if bash {
				want = c.bash
			}
			var place int
			if _, err := fmt.Sscanf(want, "!%d", &place); err == nil {
				refuses(t, c.s, bash, place, api.ErrSyntax)
				continue
			}
			reads(t, c.s, bash, want)
		}
	}
}

// TestLevels: P5.1, each two operators with an expression between.
func TestLevels(t *testing.T) {
	level := map[string]int{"**": len(fromLeft)}
	for i, l := range fromLeft {
		for _, o := range l {
			level[o] = i
		}
	}
	for _, a := range twoKids() {
		for _, b := range twoKids() {
			want := fmt.Sprintf("(%s x (%s y z))", a, b)
			if level[a] > level[b] || level[a] == level[b] && a != "**" {
				want = fmt.Sprintf("(%s (%s x y) z)", b, a)
			}
			for _, form := range []string{"x %s y %s z", "x%sy%sz", "$x\t%s\n$y%s(z)"} {
				s := fmt.Sprintf(form, a, b)
				reads(t, s, true, want)
				if a != "**" && b != "**" {
					reads(t, s, false, want)
				}
			}
			reads(t, fmt.Sprintf("(x %s y) %s z", a, b), true, fmt.Sprintf("(%s (%s x y) z)", b, a))
			reads(t, fmt.Sprintf("x %s (y %s z)", a, b), true, fmt.Sprintf("(%s x (%s y z))", a, b))
		}
		if a == "," {
			reads(t, "x ? y : z , w", true, "(, (?: x y z) w)")
			reads(t, "w , x ? y : z", true, "(, w (?: x y z))")
			refusesBoth(t, "x ? y , w : z", 6, api.ErrSyntax)
		} else {
			reads(t, fmt.Sprintf("x %s y ? z : w", a), true, fmt.Sprintf("(?: (%s x y) z w)", a))
			reads(t, fmt.Sprintf("x ? y %s z : w", a), true, fmt.Sprintf("(?: x (%s y z) w)", a))
			reads(t, fmt.Sprintf("x ? y : z %s w", a), true, fmt.Sprintf("(?: x y (%s z w))", a))
		}
		for _, sign := range []string{"!", "~", "-"} {
			named := strings.Replace(sign, "-", "neg", 1)
			reads(t, fmt.Sprintf("%sx %s %sy", sign, a, sign), true, fmt.Sprintf("(%s (%s x) (%s y))", a, named, named))
		}
		reads(t, fmt.Sprintf("x-- %s --y", a), true, fmt.Sprintf("(%s (post-- x) (pre-- y))", a))
	}
	for _, a := range assigns {
		for _, b := range assigns {
			readsBoth(t, fmt.Sprintf("x %s y %s z", a, b), fmt.Sprintf("(%s x (%s y z))", a, b))
			refusesBoth(t, fmt.Sprintf("(x %s y) %s z", a, b), 7+len(a), api.ErrSyntax)
		}
		for _, b := range twoKids() {
			s, want := fmt.Sprintf("x %s y %s z", a, b), fmt.Sprintf("(%s x (%s y z))", a, b)
			if b == "," {
				want = fmt.Sprintf("(, (%s x y) z)", a)
				reads(t, fmt.Sprintf("x , y %s z", a), true, fmt.Sprintf("(, x (%s y z))", a))
			} else {
				refuses(t, fmt.Sprintf("x %s y %s z", b, a), true, 5+len(b), api.ErrSyntax)
			}
			reads(t, s, true, want)
		}
		readsBoth(t, fmt.Sprintf("x%sy ? z : w", a), fmt.Sprintf("(%s x (?: y z w))", a))
		refusesBoth(t, fmt.Sprintf("x ? y : z %s w", a), 10, api.ErrSyntax)
		for _, wrong := range []string{"1", "-x", "!x", "~x", "(x + y)", "(x, y)", "(x = y)", "(x ? y : z)", "-(x)", "+1", "+-x", "(1)"} {
			refusesBoth(t, wrong+" "+a+" 1", len(wrong)+1, api.ErrSyntax)
		}
		refusesBoth(t, a+" 1", 0, api.ErrSyntax)
		refusesBoth(t, "x "+a, 2+len(a), api.ErrSyntax)
	}
}

// TestParseFaults: P5.1, ErrSyntax and its place.
func TestParseFaults(t *testing.T) {
	for _, c := range []struct {
		s     string
		place int
	}{
		{"1 +", 3}, {"1 + ", 4}, {"1 +\n\t", 5}, {"(", 1}, {"(1", 2}, {"(1 ", 3}, {"((1)", 4}, {"1 ?", 3}, {"1 ? 2", 5}, {"1 ? 2 :", 7}, {"x =", 3}, {"!", 1}, {"-", 1}, {"- ", 2}, {"1,", 2},
		{"1 2", 2}, {"x y", 2}, {"1 x", 2}, {"x 1", 2}, {"x $y", 2}, {"$x$y", 2}, {"x$y", 1}, {"1$x", 1}, {"(1) 2", 4}, {"(1)(2)", 3}, {"x(1)", 1}, {"1 !", 2}, {"x ~y", 2},
		{")", 0}, {"1)", 1}, {"()", 1}, {"( )", 2}, {"(1))", 3}, {"(,", 1}, {"1,,2", 2}, {",1", 0}, {"1,)", 2}, {"(1,)", 3},
		{"* 2", 0}, {"1 + * 2", 4}, {"1 + / 2", 4}, {"1 < > 2", 4}, {"&& 1", 0}, {"1 &&& 2", 4}, {"1 ||| 2", 4}, {"1 <<< 2", 4}, {"1 === 2", 4}, {"1 =! 2", 2}, {"1 <=> 2", 4}, {"x <<== 2", 5}, {"1 & & 2", 4}, {"a < = b", 4}, {"a ! = b", 2},
		{"?1:2", 0}, {"1:2", 1}, {"1 ? : 2", 4}, {"1?:2", 2}, {"1 ? 2 3", 6}, {"1 ? 2 : 3 : 4", 10}, {"1 ? 2 )", 6}, {"(1 ? 2)", 6}, {"1 ? (2 : 3)", 7}, {"1 : 2 ? 3", 2}, {"1 ? 2, 3 : 4", 5}, {"1 ? 2 : : 3", 8},
		{"1 = 2", 2}, {"= 1", 0}, {"x = = 1", 4}, {"1 + x = 2", 6}, {"x + y = 2", 6}, {"x = 1 = 2", 6}, {"x = 1 + y = 2", 10}, {"a || x = 1", 7}, {"a ? b : x = 1", 10}, {"x , 1 = 2", 6}, {"!x = 1", 3},
		{"09", 0}, {"08 + 1", 0}, {"1 + 09", 4}, {"0x", 0}, {"0xg", 0}, {"12abc", 0}, {"1_0", 0}, {"1 + 1a", 4}, {"0b1", 0}, {"1e5", 0}, {"1.5", 1}, {".5", 0}, {"0x1.8", 3}, {"1 09", 2}, {"16#ff", 2}, {"2 + 3#", 5},
		{"$", 0}, {"$ x", 0}, {"$1", 0}, {"$1x", 0}, {"${x}", 0}, {"$(x)", 0}, {"$$", 0}, {"$$x", 0}, {"1 + $", 4}, {"1 $", 2}, {"x[1]", 1}, {"{x}", 0}, {"$#", 0}, {"$?", 0}, {"$@", 0},
		{"@", 0}, {"1 @ 2", 2}, {"1 + #", 4}, {"'x'", 0}, {`"x"`, 0}, {`\`, 0}, {"1;2", 1}, {"1 ] 2", 2}, {"x`", 1}, {"\x00", 0}, {"1\x00", 1}, {"\r1", 0}, {"1\r", 1}, {"1\v+ 2", 1}, {"1\f", 1}, {"\xff", 0}, {"é", 0}, {"1 \u00a0+ 2", 2}, {"xé", 1},
		{strings.Repeat("n", api.MaxName+1), 0}, {"1 + " + strings.Repeat("n", api.MaxName+1), 4}, {"$" + strings.Repeat("n", api.MaxName+1), 0},
	} {
		refusesBoth(t, c.s, c.place, api.ErrSyntax)
	}
}

// TestOctets: P5.1, each octet by itself, and each that may stand between.
func TestOctets(t *testing.T) {
	for c := range 256 {
		o := string([]byte{byte(c)})
		switch {
		case strings.Contains("0123456789", o):
			readsBoth(t, o, o)
		case o == "_" || strings.Contains("abcdefghijklmnopqrstuvwxyz", strings.ToLower(o)) && c < 128:
			readsBoth(t, o, o)
		case strings.Contains(" \t\n", o):
			readsBoth(t, o, "0")
			readsBoth(t, "x"+o+"*"+o+"y"+o, "(* x y)")
		case strings.Contains("(!~-+", o):
			refusesBoth(t, o, 1, api.ErrSyntax)
		default:
			refusesBoth(t, o, 0, api.ErrSyntax)
			refusesBoth(t, "x= "+o, 3, api.ErrSyntax)
		}
		if !strings.Contains("+-*/%<>=&|^?, \t\n", o) {
			refusesBoth(t, "1 "+o, 2, api.ErrSyntax)
		}
	}
}

// TestBelow: P5.1, numbers modulo 2^64.
func TestBelow(t *testing.T) {
	for _, c := range []struct{ s, want string }{
		{"18446744073709551615", "(neg (+ 0 1))"}, {"0xffffffffffffffff", "(neg (+ 0 1))"}, {"01777777777777777777777", "(neg (+ 0 1))"}, {"18446744073709551611", "(neg (+ 4 1))"},
		{"9223372036854775808", "(neg (+ 9223372036854775807 1))"}, {"0x8000000000000000", "(neg (+ 9223372036854775807 1))"}, {"9223372036854775809", "(neg (+ 9223372036854775806 1))"},
		{"18446744073709551616", "0"}, {"18446744073709551623", "7"}, {"0x10000000000000001", "1"}, {"-9223372036854775808", "(neg (neg (+ 9223372036854775807 1)))"},
		{"2 * 18446744073709551615 + 1", "(+ (* 2 (neg (+ 0 1))) 1)"}, {"36893488147419103231", "(neg (+ 0 1))"},
	} {
		readsBoth(t, c.s, c.want)
	}
	reads(t, "18446744073709551615 ** 2", true, "(** (neg (+ 0 1)) 2)")
	refusesBoth(t, "18446744073709551615 = 2", 21, api.ErrSyntax)
}

// TestLong: P5.1, ErrLong goes ahead of all else.
func TestLong(t *testing.T) {
	blank := strings.Repeat(" ", api.MaxText)
	readsBoth(t, blank, "0")
	readsBoth(t, blank[1:]+"x", "x")
	readsBoth(t, "x"+blank[1:], "x")
	readsBoth(t, strings.Repeat("0", api.MaxText), "0")
	refusesBoth(t, blank[1:]+"*", api.MaxText-1, api.ErrSyntax)
	refusesBoth(t, "x*"+blank[2:], api.MaxText, api.ErrSyntax)
	refusesBoth(t, blank+" ", 0, api.ErrLong)
	refusesBoth(t, blank+"x", 0, api.ErrLong)
	refusesBoth(t, " )"+blank, 0, api.ErrLong)
	refusesBoth(t, strings.Repeat("(", api.MaxText+1), 0, api.ErrLong)
}

// TestDepth: P5.1, what is counted, up to MaxDeep and beyond.
func TestDepth(t *testing.T) {
	for _, c := range []struct {
		unit, close string // what is repeated; what stands behind, as often
		back        int    // how far ahead of the last unit's end the text gets too deep
	}{
		{"- ", "", 0}, {"+ ", "", 0}, {"!", "", 0}, {"~", "", 0}, {"(", ")", 0}, {"x=", "", 0}, {"x *= ", "", 0}, {"1?", ":1", 0}, {"1?1:", "", 2}, {"2**", "", 0},
	} {
		full, close := strings.Repeat(c.unit, api.MaxDeep-1), strings.Repeat(c.close, api.MaxDeep-1)
		for _, leaf := range []string{"1", "x", "$x", "x++"} {
			s := full + leaf + close
			// x++ is as deep as x to the text, but not by Deep.
			if _, n, e := Parse(s, true); n != len(s) || e != api.OK && (leaf != "x++" || e != api.ErrDepth) {
				t.Errorf("P5.1: Parse(%.20q .. %q): %d, %d", s, leaf, n, e)
			}
			refuses(t, full+c.unit+leaf+close+c.close, true, len(full+c.unit)-c.back, api.ErrDepth)
		}
		for _, wrong := range []string{":", "@", "09", ""} {
			refuses(t, full+wrong, true, len(full), api.ErrSyntax)
			refuses(t, full+c.unit+wrong, true, len(full+c.unit)-c.back, api.ErrDepth)
		}
		refuses(t, strings.Repeat(full, 3), true, len(full+c.unit)-c.back, api.ErrDepth)
	}
	refuses(t, strings.Repeat("-", api.MaxDeep)+"x", false, api.MaxDeep, api.ErrDepth)
	// Those within each other count, of whichever kind; those beside each other don't.
	refusesBoth(t, strings.Repeat("-(x=1?", 15)+"1", 90, api.ErrDepth)
	refusesBoth(t, strings.Repeat("-(x=1?", 14)+"-(x=-1", 89, api.ErrDepth)
	refusesBoth(t, strings.Repeat("-(x=1?", 14)+"-(x=1", 89, api.ErrSyntax)
	nest := strings.Repeat("(", 50) + "-x" + strings.Repeat(")", 50)
	readsBoth(t, strings.Repeat(nest+"*", 50)+nest, shape(chain(50, op("neg", v("x")), func(x api.Sum) api.Sum { return op("*", x, op("neg", v("x"))) })))
}

// TestSteps: P5.1, ++ and -- ahead count, their variable does not; those behind do not.
func TestSteps(t *testing.T) {
	full, over := strings.Repeat("+ ", api.MaxDeep-1), strings.Repeat("+ ", api.MaxDeep)
	for _, step := range []string{"++", "--"} {
		reads(t, full+step+"x", true, "(pre"+step+" x)")
		reads(t, full+step+" $x", true, "(pre"+step+" x)")
		reads(t, full+"x"+step, true, "(post"+step+" x)")
		refuses(t, full+step+"1", true, len(full)+2, api.ErrSyntax)
		refuses(t, full+step+"(", true, len(full)+2, api.ErrSyntax)
		refuses(t, full+step, true, len(full)+2, api.ErrSyntax)
		refuses(t, full+"x"+step+step, true, len(full)+3, api.ErrSyntax)
		refuses(t, over+step+"x", true, len(over), api.ErrDepth)
		refuses(t, over+"x"+step, true, len(over), api.ErrDepth)
	}
	// To sh they are two signs each.
	refuses(t, full+"++x", false, len(full)+1, api.ErrDepth)
	refuses(t, full+"--x", false, len(full)+1, api.ErrDepth)
	refuses(t, full+"x++", false, len(full)+3, api.ErrSyntax)
}

// TestDeepEnd: P5.1, Deep above MaxDeep is told at the text's end, behind all other faults.
func TestDeepEnd(t *testing.T) {
	for _, o := range []string{"+", " - ", "*", "||", "&&", ",", "<<", "=="} {
		full := "1" + strings.Repeat(o+"1", api.MaxDeep-1)
		for _, bash := range []bool{false, true} {
			if x, n, e := Parse(full, bash); depth(x) != api.MaxDeep || n != len(full) || e != api.OK {
				t.Errorf("P5.1: Parse of %d times %q: %d, %d, %d", api.MaxDeep-1, o, depth(x), n, e)
			}
		}
		refusesBoth(t, full+o+"1", len(full+o)+1, api.ErrDepth)
		refusesBoth(t, full+o+"1 \n", len(full+o)+3, api.ErrDepth)
		refusesBoth(t, full+o+"1 )", len(full+o)+2, api.ErrSyntax)
		refusesBoth(t, full+o+"1"+o, len(full+o+o)+1, api.ErrSyntax)
		refusesBoth(t, "("+full+o+"1)", len(full+o)+3, api.ErrDepth)
		refusesBoth(t, "x=y="+full, len(full)+4, api.ErrDepth)
	}
	long := strings.Repeat("1+", api.MaxText/2-1) + "1"
	refusesBoth(t, long, len(long), api.ErrDepth)
	refusesBoth(t, long+"+", len(long)+1, api.ErrSyntax)
	// A number below 0 is three within each other, though one of the text.
	signs := strings.Repeat("-", api.MaxDeep-3)
	if x, _, e := Parse(signs+"0xffffffffffffffff", false); depth(x) != api.MaxDeep || e != api.OK {
		t.Error("P5.1: Parse of a deep number below 0:", depth(x), e)
	}
	refuses(t, signs+"-0xffffffffffffffff", false, len(signs)+19, api.ErrDepth)
	// Parentheses and + are within each other in the text alone.
	reads(t, strings.Repeat("+ ", api.MaxDeep-2)+"- --x", true, "(neg (pre-- x))")
	readsBoth(t, strings.Repeat("(", api.MaxDeep-1)+"x"+strings.Repeat(")", api.MaxDeep-1), "x")
}

// verdict is what a text of tokens is, by an automaton that knows only whether an expression has to begin or has ended,
// and what is open: the number of the first token that may not stand there; that of all, if the text ends too early; -1 if it's an expression.
type frame struct {
	open string // ( or ?, or nothing
	bare bool   // has the part that is on its way nothing but + ahead of it?
	lone bool   // is it the only part?
}

func verdict(tokens []string) int {
	const begin, ended, named = 0, 1, 2 // an expression begins; it has ended; a name must stand
	state, stack, word, just := begin, []frame{{"", true, true}}, false, false
	for i, k := range tokens {
		top := &stack[len(stack)-1]
		wasWord := word
		word = false
		switch {
		case state == named && k == "x":
			state = ended
		case state == begin && k == "x":
			state, just, word = ended, top.bare, true
		case state == begin && k == "1":
			state, just = ended, false
		case state == begin && k == "+":
		case state == begin && k == "!":
			top.bare = false
		case state == begin && k == "++":
			state, top.bare, just = named, false, false
		case state == begin && k == "(":
			stack = append(stack, frame{"(", true, true})
		case state == ended && (k == "+" || k == "*" || k == "**"):
			state, top.bare = begin, false
		case state == ended && k == "=" && just:
			state, top.bare, top.lone = begin, true, false
		case state == ended && k == "?":
			top.bare = false
			state, stack = begin, append(stack, frame{"?", true, true})
		case state == ended && k == ":" && top.open == "?":
			state, stack = begin, stack[:len(stack)-1]
		case state == ended && k == "," && top.open != "?":
			state, top.bare, top.lone = begin, true, false
		case state == ended && k == ")" && top.open == "(":
			inner := just && top.bare && top.lone
			stack = stack[:len(stack)-1]
			just = inner && stack[len(stack)-1].bare
		case state == ended && k == "++" && wasWord:
			just = false
			// A variable that has been stepped is no variable alone, in parentheses neither.
			top.bare = false
		default:
			return i
		}
	}
	if state != ended || len(stack) > 1 {
		return len(tokens)
	}
	return -1
}

// TestTokens: P5.1, all texts of few tokens, in both dialects: which are expressions, and where the others have their fault.
func TestTokens(t *testing.T) {
	alphabet := []string{"x", "1", "+", "++", "*", "**", "!", "=", "?", ":", ",", "(", ")"}
	var all func(tokens []string, left int)
	asked, right := 0, 0
	ask := func(tokens []string, bash bool) {
		text, places, seen := "", []int{}, []string{}
		for _, k := range tokens {
			for at := range len(k) {
				if at == 0 || !bash {
					places = append(places, len(text)+at)
				}
			}
			if bash {
				seen = append(seen, k)
			} else {
				seen = append(seen, strings.Split(k, "")...)
			}
			text += k + " "
		}
		places = append(places, len(text))
		asked++
		want := verdict(seen)
		x, n, e := Parse(text, bash)
		if want < 0 {
			right++
			if n != len(text) || e != api.OK || Check(x) != api.OK {
				t.Fatalf("P5.1: Parse(%q, %t): %s, %d, %d", text, bash, shape(x), n, e)
			}
			again(t, x, text)
			return
		}
		if shape(x) != "0" || n != places[want] || e != api.ErrSyntax {
			t.Fatalf("P5.1: Parse(%q, %t): %s, %d, %d, want %d", text, bash, shape(x), n, e, places[want])
		}
	}
	all = func(tokens []string, left int) {
		if len(tokens) > 0 {
			ask(tokens, true)
			ask(tokens, false)
		}
		// Behind a token that may not stand there nothing else is told.
		if bad := verdict(tokens); left == 0 || bad >= 0 && bad < len(tokens)-1 {
			return
		}
		for _, k := range alphabet {
			all(append(tokens[:len(tokens):len(tokens)], k), left-1)
		}
	}
	all(nil, 6)
	if asked < 100000 || right < 3000 {
		t.Error("P5.1: too few texts:", asked, right)
	}
}

// again: what was read is read again from what Print tells of it.
func again(t *testing.T, x api.Sum, from string) {
	t.Helper()
	s, e := Print(x)
	if y, _, f := Parse(s, true); e != api.OK || f != api.OK || shape(y) != shape(x) {
		t.Fatalf("P5.2: Print of %q: %q, %d, %d", from, s, e, f)
	}
}

// TestSpelt: P5.1, an expression comes back from a text with parentheses around all, and blanks, + and $.
func TestSpelt(t *testing.T) {
	r := rand.New(rand.NewSource(5))
	read := 0
	for range 20000 {
		x := random(r, 6)
		s := spelt(r, x)
		y, n, e := Parse(s, true)
		if len(s) > api.MaxText {
			continue
		}
		if shape(y) != shape(x) || n != len(s) || e != api.OK {
			t.Fatalf("P5.1: Parse(%q): %s, %d, %d, want %s", s, shape(y), n, e, shape(x))
		}
		read++
		y, n, e = Parse(s, false)
		if !has(x) && (shape(y) != shape(x) || n != len(s) || e != api.OK) {
			t.Fatalf("P5.1: Parse(%q) of sh: %s, %d, %d, want %s", s, shape(y), n, e, shape(x))
		}
	}
	if read < 15000 {
		t.Error("P5.1: too few texts:", read)
	}
}

// TestAnything: P1, whatever text is given, Parse ends, and soon; its place lies in the text, and beside a fault is nothing.
func TestAnything(t *testing.T) {
	begun := time.Now()
	r := rand.New(rand.NewSource(15))
	odd := "x1+-*/%<>=!&|^~?:,()$ \n0a_@#\x00\xff"
	for n := range 60000 {
		b := make([]byte, n%60)
		for i := range b {
			b[i] = odd[r.Intn(len(odd))]
		}
		for _, bash := range []bool{false, true} {
			x, at, e := Parse(string(b), bash)
			switch {
			case e == api.OK && (at != len(b) || Check(x) != api.OK):
				t.Fatalf("P5.1: Parse(%q): %s, %d", b, shape(x), at)
			case e != api.OK && (e != api.ErrSyntax && e != api.ErrDepth || at < 0 || at > len(b) || shape(x) != "0"):
				t.Fatalf("P5.1: Parse(%q): %s, %d, %d", b, shape(x), at, e)
			}
		}
	}
	for _, unit := range []string{"(", "-", "x=", "1?", "1?1:", "1**", "1+", "x,", ")", "0", "n", "$x ", "((1)+", "<", "=", "x++ +", "\x00"} {
		s := strings.Repeat(unit, api.MaxText)[:api.MaxText]
		for _, bash := range []bool{false, true} {
			if _, at, e := Parse(s, bash); unit != "0" && e == api.OK || at > len(s) {
				t.Errorf("P5.1: Parse of %q again and again: %d, %d", unit, at, e)
			}
		}
	}
	if took := time.Since(begun); took > 20*time.Second {
		t.Error("P1: it took", took)
	}
}
