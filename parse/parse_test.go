package parse

import (
	"strings"
	"testing"

	"cowrie/api"
)

// read is a script, in which dialects it is read, and what is made of it.
type read struct {
	s, dialects, want string
}

// reads holds what Script makes of scripts, in the dialects s (sh) and b (bash), and that it tells the script's length.
func reads(t *testing.T, l []read) {
	t.Helper()
	for _, x := range l {
		for _, d := range strings.Split(x.dialects, "") {
			c, n, e := Script(x.s, d == "b")
			if got := shape(c); got != x.want || n != len(x.s) || e != api.OK {
				t.Errorf("P14.1: Script(%q, %s): %s, not %s", x.s, d, told(c, n, e), x.want)
			}
		}
	}
}

// TestSimple: words, assignments, redirections.
func TestSimple(t *testing.T) {
	reads(t, []read{
		{"", "sb", "none0()"},
		{" ;\n#a\n", "sb", "none0()"},
		{"a", "sb", "cmd0(a)"},
		{" a  b\tc #d", "sb", "cmd1(a b c)"},
		{"a 'if' \"$x\"", "sb", `cmd0(a 'if' "${x})`},
		{"'if' a", "sb", "cmd0('if' a)"},
		{`\if`, "sb", "cmd0('i'f)"},
		{"a if then in } !", "sb", "cmd0(a if then in } !)"},
		{"a=b", "sb", "cmd0(a=b)"},
		{"a= b='c'd e=\"$f\"", "sb", `cmd0(a= b='c'd e="${f})`},
		{"a=b=c if=1", "sb", "cmd0(a=b=c if=1)"},
		{"a\\\nb=c", "sb", "cmd0(ab=c)"},
		{"c a=b", "sb", "cmd0(c a=b)"},
		{"1a=b 'a'=b a'='b", "sb", "cmd0(1a=b 'a'=b a'='b)"},
		{strings.Repeat("a", 64) + "=b", "sb", "cmd0(" + strings.Repeat("a", 64) + "=b)"},
		{strings.Repeat("a", 65) + "=b c", "sb", "cmd0(" + strings.Repeat("a", 65) + "=b c)"},
		{"$(a=b) c", "sb", "cmd0($2(cmd2(a=b)) c)"},
		{"<(a=b) c", "b", "cmd0(<2(cmd2(a=b)) c)"},
		{"a+=b c", "s", "cmd0(a+=b c)"},
		{"a+=b c+=", "b", "cmd0(a+=b c+=)"},
		{"a[1]=b c", "s", "cmd0(a[1]=b c)"},
		{"a[1 + x]=b c[0]+= d[]=$e", "b", "cmd0(a[{(+ 1 x)}]=b c[{0}]+= d[{0}]=${e})"},
		{"a[1]b c", "b", "cmd0(a[1]b c)"},
		{"a[b ]=c]", "b", "cmd0(a[{b}]=c])"},
		{"[ a = b ]", "sb", "cmd0([ a = b ])"},
		{"a=(b 'c' \\\n$d) e=1", "b", "cmd0(a=( b 'c' ${d} ) e=1)"},
		{"a=() b+=( )", "b", "cmd0(a=( ) b+=( ))"},
		{"a=( do if )", "b", "cmd0(a=( do if ))"},
		{"local a=b c", "s", "cmd0(local a=b c)"},
		{"'local' a", "b", "cmd0('local' a)"},
		{"a local", "b", "cmd0(a local)"},
	})
}

// TestRedirs: all redirections, with a digit ahead and without one.
func TestRedirs(t *testing.T) {
	reads(t, []read{
		{"a <b >c >>d", "sb", "cmd0(a 0<b 1>c 1>>d)"},
		{"a 2>&1 >& 2", "sb", "cmd0(a 2>&1 1>&2)"},
		{"0<a 1>b 2>>c 0>d 2<e", "sb", "cmd0(0<a 1>b 2>>c 0>d 2<e)"},
		{">a b <c d", "sb", "cmd0(b d 1>a 0<c)"},
		{">a x=1 <c y=2", "sb", "cmd0(x=1 y=2 1>a 0<c)"},
		{">a if", "sb", "cmd0(if 1>a)"},
		{"a 3>b", "sb", "cmd0(a 3 1>b)"},
		{"a 12>b", "sb", "cmd0(a 12 1>b)"},
		{"a 1 >b", "sb", "cmd0(a 1 1>b)"},
		{"a '1'>b", "sb", "cmd0(a '1' 1>b)"},
		{"x=2>b", "sb", "cmd0(x=2 1>b)"},
		{"a <<<b 2<<<c", "b", "cmd0(a 0<<<b 2<<<c)"},
		{"a &>b", "b", "cmd0(a 1&>b)"},
		{"a <(b) < <(c)", "b", "cmd0(a <4(cmd4(b)) 0<<11(cmd11(c)))"},
		{"a 0<(b)", "b", "cmd0(a 0<5(cmd5(b)))"},
		{"a >\"$b\"c", "sb", `cmd0(a 1>"${b}c)`},
		{"{ a; } >b 2>&1 <<E\nc\nE\n", "sb", "group0(1>b 2>&1 0<<'c\n' cmd2(a))"},
		{"(a)<b", "sb", "sub0(0<b cmd1(a))"},
		{"if a; then b; fi >c", "sb", "if0(1>c cmd3(a) cmd11(b))"},
		{"while a; do b; done >c; until a; do b; done >c", "sb", "seq0(while0(1>c cmd6(a) cmd12(b)) until24(1>c cmd30(a) cmd36(b)))"},
		{"for x do a; done <b", "sb", "for:x0(0<b cmd9(a) {: none0()})"},
		{"case a in esac >b", "sb", "case0(a 1>b)"},
		{"[[ a ]] >b; ((1)) >c; for ((;;)) do a; done >d", "b", "seq0(cond0(1>b (word a)) sum12(1>c {1}) loop22(1>d cmd36(a) {0}{0}{0}))"},
	})
}

// TestHeredocs: their lines stand behind the next newline.
func TestHeredocs(t *testing.T) {
	reads(t, []read{
		{"a <<E\nb $c\nE", "sb", `cmd0(a 0<<'b '"${c}'` + "\n')"},
		{"a <<'E'\nb $c\nE\n", "sb", "cmd0(a 0<<'b $c\n')"},
		{"a <<\\E\"F\"\n$c\nEF\nb", "sb", "seq0(cmd0(a 0<<'$c\n') cmd16(b))"},
		{"a 2<<E b; c\n\nE\nd", "sb", "seq0(cmd0(a b 2<<'\n') cmd10(c) cmd15(d))"},
		{"a <<E | b <<F &&\n$(c;d)\nE\nf\nF\n g", "sb", `and0(pipe0(cmd0(a 0<<"$19(seq19(cmd19(c) cmd21(d)))'` + "\n') cmd8(b 0<<'f\n')) cmd31(g))"},
		{"if a <<E\nb\nE\nthen c; fi", "sb", "if0(cmd3(a 0<<'b\n') cmd18(c))"},
		{"a <<E\nE\n", "sb", "cmd0(a 0<<'')"},
		{"a <<E #b\nc\nE\n", "sb", "cmd0(a 0<<'c\n')"},
		{"a <<E 'b\nc'\nd\nE\n", "sb", "cmd0(a 'b\nc' 0<<'d\n')"},
		{"a <<E; for x in b\nc\nE\ndo d; done", "sb", "seq0(cmd0(a 0<<'c\n') for:x7(b cmd25(d)))"},
		{"a <<E; case b in\nc\nE\nd) ;; esac", "sb", "seq0(cmd0(a 0<<'c\n') case7(b { d: none0()}))"},
		{"a <<E; f()\nc\nE\n{ d; }", "sb", "seq0(cmd0(a 0<<'c\n') fun:f7(group15(cmd17(d))))"},
		{"a <<E; [[\nc\nE\nd ]]", "b", "seq0(cmd0(a 0<<'c\n') cond7((word d)))"},
		{"a <<$'E'\n$b\nE\n", "b", "cmd0(a 0<<'$b\n')"},
		{"a <<-E\nb\n-E\n", "sb", "cmd0(a 0<<'b\n')"},
	})
}

// TestLists: lists, chains, pipelines.
func TestLists(t *testing.T) {
	reads(t, []read{
		{"a;b", "sb", "seq0(cmd0(a) cmd2(b))"},
		{";\n a\n;\n\nb ; c;", "sb", "seq3(cmd3(a) cmd8(b) cmd12(c))"},
		{"a && b", "sb", "and0(cmd0(a) cmd5(b))"},
		{"a || b && c||d", "sb", "or0(and0(or0(cmd0(a) cmd5(b)) cmd10(c)) cmd13(d))"},
		{"a &&\n#b\n\nc", "sb", "and0(cmd0(a) cmd9(c))"},
		{"a | b|\n\nc", "sb", "pipe0(cmd0(a) cmd4(b) cmd8(c))"},
		{"! a | b", "sb", "not0(pipe2(cmd2(a) cmd6(b)))"},
		{"! a && ! b; !\\\n c", "sb", "seq0(and0(not0(cmd2(a)) not7(cmd9(b))) not12(cmd16(c)))"},
		{"!a", "sb", "cmd0(!a)"},
		{"a; b && c | d\ne", "sb", "seq0(cmd0(a) and3(cmd3(b) pipe8(cmd8(c) cmd12(d))) cmd14(e))"},
	})
}

// TestCompounds: commands that a word, or a parenthesis, begins.
func TestCompounds(t *testing.T) {
	reads(t, []read{
		{"(a)", "sb", "sub0(cmd1(a))"},
		{"( a; b\n) | c", "sb", "pipe0(sub0(seq2(cmd2(a) cmd5(b))) cmd11(c))"},
		{"((a) )", "s", "sub0(sub1(cmd2(a)))"},
		{"( (a) )", "sb", "sub0(sub2(cmd3(a)))"},
		{"{ a; }", "sb", "group0(cmd2(a))"},
		{"{ (a) }", "sb", "group0(sub2(cmd3(a)))"},
		{"{a }", "sb", "cmd0({a })"},
		{"if a; then b; fi", "sb", "if0(cmd3(a) cmd11(b))"},
		{"if a\nthen b; else c; fi", "sb", "if0(cmd3(a) cmd10(b) cmd18(c))"},
		{"if a; then b; elif c; then d; elif e; then f; else g; fi", "sb", "if0(cmd3(a) cmd11(b) if14(cmd19(c) cmd27(d) if30(cmd35(e) cmd43(f) cmd51(g))))"},
		{"if ! (a) then { b; } fi", "sb", "if0(not3(sub5(cmd6(a))) group14(cmd16(b)))"},
		{"while a; b; do c; done", "sb", "while0(seq6(cmd6(a) cmd9(b)) cmd15(c))"},
		{"until a\ndo b\ndone", "sb", "until0(cmd6(a) cmd11(b))"},
		{"for x in a $b; do c; done", "sb", "for:x0(a ${b} cmd18(c))"},
		{"for x\n\nin a in do\n\ndo c; done", "sb", "for:x0(a in do cmd22(c))"},
		{"for x in; do a; done", "sb", "for:x0(cmd13(a))"},
		{"for x; do a; done", "sb", "for:x0(cmd10(a) {: none0()})"},
		{"for x\ndo a; done", "sb", "for:x0(cmd9(a) {: none0()})"},
		{"for in in in; do a; done", "sb", "for:in0(in cmd17(a))"},
		{"case $a in esac", "sb", "case0(${a})"},
		{"case a in b) c;; (d | e*) ;; f)\n;; g) h; i\n;;\n\nesac", "sb", "case0(a { b: cmd13(c)} { d e*: none0()} { f: none0()} { g: seq38(cmd38(h) cmd41(i))})"},
		{"case in\n\nin\n\n(esac|in) if a; then b; fi;; esac", "sb", "case0(in { esac in: if23(cmd26(a) cmd34(b))})"},
		{"f() { a; }", "sb", "fun:f0(group4(cmd6(a)))"},
		{"f ( )\n\n(a) >b", "sb", "fun:f0(sub7(1>b cmd8(a)))"},
		{"f() if a; then b; fi; f", "sb", "seq0(fun:f0(if4(cmd7(a) cmd15(b))) cmd22(f))"},
		{"f() while a; do b; done\nf() until a; do b; done", "sb", "seq0(fun:f0(while4(cmd10(a) cmd16(b))) fun:f24(until28(cmd34(a) cmd40(b))))"},
		{"f() for x do a; done; f() case a in esac", "sb", "seq0(fun:f0(for:x4(cmd13(a) {: none0()})) fun:f22(case26(a)))"},
	})
}

// TestBash: commands that bash alone has.
func TestBash(t *testing.T) {
	reads(t, []read{
		{"function f { a; }", "b", "fun:f0(group11(cmd13(a)))"},
		{"function f ( )\n{ a; }", "b", "fun:f0(group15(cmd17(a)))"},
		{"function f (a)", "b", "fun:f0(sub11(cmd12(a)))"},
		{"function if\n((1))", "b", "fun:if0(sum12({1}))"},
		{"f() [[ a ]]; f() ((1)); f() for ((;;)) do a; done", "b", "seq0(fun:f0(cond4((word a))) fun:f13(sum17({1})) fun:f24(loop28(cmd42(a) {0}{0}{0})))"},
		{"((1 + (x)))", "b", "sum0({(+ 1 x)})"},
		{"(())", "b", "sum0({0})"},
		{"a | ((\n1\n))", "b", "pipe0(cmd0(a) sum4({1}))"},
		{"for ((i = 0; i < 3; i++)); do a; done", "b", "loop0(cmd30(a) {(= i 0)}{(< i 3)}{(post++ i)})"},
		{"for((;;)) do a; done", "b", "loop0(cmd13(a) {0}{0}{0})"},
		{"for ((;;))\n\ndo a; done", "b", "loop0(cmd15(a) {0}{0}{0})"},
		{"local x y=1 z= w=\"$x\"", "b", `local0(x y=1 z= w="${x})`},
		{"local", "b", "local0()"},
		{"local() { a; }", "b", "fun:local0(group8(cmd10(a)))"},
		{"local if; a", "b", "seq0(local0(if) cmd10(a))"},
	})
}

// TestConds: conditions within [[ ]].
func TestConds(t *testing.T) {
	var l []read
	for _, op := range strings.Fields("-n -z -e -f -d -s") {
		l = append(l, read{"[[ " + op + " \"$a\" ]]", "b", `cond0((` + op + ` "${a}))`}, read{"[[ " + op + " ]]", "b", "cond0((word " + op + "))"})
	}
	for _, op := range strings.Fields("= == != -eq -ne -lt -le -gt -ge") {
		l = append(l, read{"[[ $a " + op + " b* ]]", "b", "cond0((" + op + " ${a} b*))"}, read{"[[ -n " + op + " ]]", "b", "cond0((-n " + op + "))"}, read{"[[ -n " + op + " -n ]]", "b", "cond0((" + op + " -n -n))"})
	}
	reads(t, append(l,
		read{"[[ a ]]", "b", "cond0((word a))"},
		read{"[[ a || b && ! c || d ]]", "b", "cond0((|| (|| (word a) (&& (word b) (! (word c)))) (word d)))"},
		read{"[[ a && b && c ]]", "b", "cond0((&& (&& (word a) (word b)) (word c)))"},
		read{"[[ ( a || b ) && ! ! (c) ]]", "b", "cond0((&& (|| (word a) (word b)) (! (! (word c)))))"},
		read{"[[\n!\n(\na\n=\nb\n||\n-n\nc\n)\n&&\nd\n]]", "b", "cond0((&& (! (|| (= a b) (-n c))) (word d)))"},
		read{"[[ '!' = \"]]\" && \"-n\" ]]", "b", "cond0((&& (= '!' ']]') (word '-n')))"},
		read{"[[ [[ == if ]]", "b", "cond0((== [[ if))"},
		read{"[[ $(a) = <(b) ]]", "b", "cond0((= $5(cmd5(a)) <12(cmd12(b))))"},
		read{"[[ a ]] && b", "b", "and0(cond0((word a)) cmd11(b))"},
		read{"[[a ]]", "sb", "cmd0([[a ]])"},
	))
}

// TestInner: lists of $( ) and <( ) are read in their places.
func TestInner(t *testing.T) {
	reads(t, []read{
		{"a $(b) \"$(c; d)\"", "sb", `cmd0(a $4(cmd4(b)) "$10(seq10(cmd10(c) cmd13(d))))`},
		{"a $() $( ) \"$(\n;\n)\" $(#b\n)", "sb", `cmd0(a $4() $8() "$14() $22())`},
		{"a=$(b) <$(c)", "sb", "cmd0(a=$4(cmd4(b)) 0<$10(cmd10(c)))"},
		{"a ${b-$(c)}${d#\"$(e)\"}", "sb", `cmd0(a ${b-<$8(cmd8(c))>}${d#<"$18(cmd18(e))>})`},
		{"a ${b//$(c)/$(d)} <(e <(f))", "b", "cmd0(a ${b//<$9(cmd9(c))><$14(cmd14(d))>} <20(cmd20(e <24(cmd24(f)))))"},
		{"a $(b $(c $(d)))", "sb", "cmd0(a $4(cmd4(b $8(cmd8(c $12(cmd12(d)))))))"},
		{"$(a)", "sb", "cmd0($2(cmd2(a)))"},
		{"case $(a) in $(b)) c;; esac", "sb", "case0($7(cmd7(a)) { $15(cmd15(b)): cmd19(c)})"},
		{"for x in $(a); do b; done", "sb", "for:x0($11(cmd11(a)) cmd18(b))"},
		{"a[1]=$(b) c=($(d)) e+=$(f)", "b", "cmd0(a[{1}]=$7(cmd7(b)) c=( $15(cmd15(d)) ) e+=$24(cmd24(f)))"},
		{"local a=$(b)", "b", "local0(a=$10(cmd10(b)))"},
		{"a $(if b; then (c); fi)", "sb", "cmd0(a $4(if4(cmd7(b) sub15(cmd16(c)))))"},
	})
}

// TestWrong: what may not stand there, and what ends too early.
func TestWrong(t *testing.T) {
	for _, x := range []struct {
		s, dialects string
		place       int
		errno       api.Errno
	}{
		{"if a", "sb", 4, api.ErrShort},
		{"a && ", "sb", 5, api.ErrShort},
		{"a |\n", "sb", 4, api.ErrShort},
		{"!", "sb", 1, api.ErrShort},
		{"(a", "sb", 2, api.ErrShort},
		{"{ a }", "sb", 5, api.ErrShort},
		{"a >", "sb", 3, api.ErrShort},
		{"f()", "sb", 3, api.ErrShort},
		{"f(", "sb", 2, api.ErrShort},
		{"for", "sb", 3, api.ErrShort},
		{"for x in a; do b;", "sb", 17, api.ErrShort},
		{"case a in", "sb", 9, api.ErrShort},
		{"case a in b", "sb", 11, api.ErrShort},
		{"case a in b) c", "sb", 14, api.ErrShort},
		{"a <<E", "sb", 5, api.ErrShort},
		{"a <<E\nb", "sb", 7, api.ErrShort},
		{"a <<E; b #c", "sb", 11, api.ErrShort},
		{"a 'b", "sb", 4, api.ErrShort},
		{"a $(b", "sb", 5, api.ErrShort},
		{"a=(b", "b", 4, api.ErrShort},
		{"((1", "b", 3, api.ErrShort},
		{"((1)", "b", 4, api.ErrShort},
		{"[[ a", "b", 4, api.ErrShort},
		{"[[ a &&", "b", 7, api.ErrShort},
		{"[[ a =", "b", 6, api.ErrShort},
		{"function", "b", 8, api.ErrShort},
		{")", "sb", 0, api.ErrSyntax},
		{"a )", "sb", 2, api.ErrSyntax},
		{"a;;b", "sb", 1, api.ErrSyntax},
		{"a &", "sb", 2, api.ErrSyntax},
		{"a & b", "sb", 2, api.ErrSyntax},
		{"&& a", "sb", 0, api.ErrSyntax},
		{"a && || b", "sb", 5, api.ErrSyntax},
		{"a | ! b", "sb", 4, api.ErrSyntax},
		{"! ! a", "sb", 2, api.ErrSyntax},
		{"!\na", "sb", 1, api.ErrSyntax},
		{"a; then", "sb", 3, api.ErrSyntax},
		{"}", "sb", 0, api.ErrSyntax},
		{"in", "sb", 0, api.ErrSyntax},
		{"select x", "sb", 0, api.ErrSyntax},
		{"]]", "sb", 0, api.ErrSyntax},
		{"[[ a ]]", "s", 0, api.ErrSyntax},
		{"function f { a; }", "s", 0, api.ErrSyntax},
		{"()", "sb", 1, api.ErrSyntax},
		{"( ;)", "sb", 3, api.ErrSyntax},
		{"{ }", "sb", 2, api.ErrSyntax},
		{"(a) b", "sb", 4, api.ErrSyntax},
		{"{ a; } b=c", "sb", 7, api.ErrSyntax},
		{"a (b)", "sb", 3, api.ErrSyntax},
		{"a=b c", "sb", 4, api.ErrSyntax},
		{"a=b >c d", "sb", 7, api.ErrSyntax},
		{"a=b if", "sb", 4, api.ErrSyntax},
		{"a=(b)", "s", 2, api.ErrSyntax},
		{"a= (b)", "b", 3, api.ErrSyntax},
		{"a=(b\nc)", "b", 4, api.ErrSyntax},
		{"a=(b;c)", "b", 4, api.ErrSyntax},
		{"a=''(b)", "b", 4, api.ErrSyntax},
		{"a[1]=(b)", "b", 5, api.ErrSyntax},
		{"a[1+]=b", "b", 4, api.ErrSyntax},
		{"a['1']=b", "b", 2, api.ErrSyntax},
		{"a+=b >c d", "b", 8, api.ErrSyntax},
		{"local a[1]=b", "b", 6, api.ErrSyntax},
		{"local a+=b", "b", 6, api.ErrSyntax},
		{"local a=(b)", "b", 8, api.ErrSyntax},
		{"local 'a'", "b", 6, api.ErrSyntax},
		{"local $a", "b", 6, api.ErrSyntax},
		{"local 1", "b", 6, api.ErrSyntax},
		{"local a >b", "b", 8, api.ErrSyntax},
		{">b local a", "b", 3, api.ErrSyntax},
		{"a > ;", "sb", 4, api.ErrSyntax},
		{"a >\nb", "sb", 3, api.ErrSyntax},
		{"a >&3", "sb", 4, api.ErrSyntax},
		{"a >&$b", "sb", 4, api.ErrSyntax},
		{"a >| b", "sb", 3, api.ErrSyntax},
		{"a <&1", "sb", 3, api.ErrSyntax},
		{"a <<$b\n", "sb", 4, api.ErrSyntax},
		{"a <<(b)", "b", 4, api.ErrSyntax},
		{"a <<<b", "s", 4, api.ErrSyntax},
		{"a &>b", "s", 2, api.ErrSyntax},
		{"a <(b)", "s", 3, api.ErrSyntax},
		{"if; then a; fi", "sb", 4, api.ErrSyntax},
		{"if a; then fi", "sb", 11, api.ErrSyntax},
		{"if a; then b; else fi", "sb", 19, api.ErrSyntax},
		{"if a; then b; else c; elif d; then e; fi", "sb", 22, api.ErrSyntax},
		{"if a; b; fi", "sb", 9, api.ErrSyntax},
		{"while a; b; done", "sb", 12, api.ErrSyntax},
		{"while a; do b; fi", "sb", 15, api.ErrSyntax},
		{"for 'x' in a; do b; done", "sb", 4, api.ErrSyntax},
		{"for 1 in a; do b; done", "sb", 4, api.ErrSyntax},
		{"for " + strings.Repeat("x", 65) + "; do a; done", "sb", 4, api.ErrSyntax},
		{"for\nx do a; done", "sb", 3, api.ErrSyntax},
		{"for x 'in' a; do b; done", "sb", 6, api.ErrSyntax},
		{"for x; in a; do b; done", "sb", 7, api.ErrSyntax},
		{"for x in a > b; do c; done", "sb", 11, api.ErrSyntax},
		{"for x in a; b; done", "sb", 12, api.ErrSyntax},
		{"for ((;;)) do a; done", "s", 4, api.ErrSyntax},
		{"for ((1;2)) do a; done", "b", 9, api.ErrSyntax},
		{"for ((1;2;3;4)) do a; done", "b", 11, api.ErrSyntax},
		{"for ((1;2+;3)) do a; done", "b", 10, api.ErrSyntax},
		{"case in", "sb", 7, api.ErrShort},
		{"case a b", "sb", 7, api.ErrSyntax},
		{"case a 'in' esac", "sb", 7, api.ErrSyntax},
		{"case a; in esac", "sb", 6, api.ErrSyntax},
		{"case a in ; esac", "sb", 10, api.ErrSyntax},
		{"case a in b) c; esac", "sb", 16, api.ErrSyntax},
		{"case a in b c) d;; esac", "sb", 12, api.ErrSyntax},
		{"case a in b|) d;; esac", "sb", 12, api.ErrSyntax},
		{"case a in b\n) d;; esac", "sb", 11, api.ErrSyntax},
		{"case a in () d;; esac", "sb", 11, api.ErrSyntax},
		{"f() a", "sb", 4, api.ErrSyntax},
		{"f() f() { a; }", "sb", 4, api.ErrSyntax},
		{"f() local a", "b", 4, api.ErrSyntax},
		{"f() function f { a; }", "b", 4, api.ErrSyntax},
		{"f() then", "sb", 4, api.ErrSyntax},
		{"f(a) { b; }", "sb", 2, api.ErrSyntax},
		{"f() { a; } b", "sb", 11, api.ErrSyntax},
		{"f( { a; }", "sb", 3, api.ErrSyntax},
		{"f(\n) { a; }", "sb", 2, api.ErrSyntax},
		{"'f'() { a; }", "sb", 3, api.ErrSyntax},
		{"f-g() { a; }", "sb", 3, api.ErrSyntax},
		{">a f() { b; }", "sb", 4, api.ErrSyntax},
		{"if () { a; }", "sb", 4, api.ErrSyntax},
		{"function 'f' { a; }", "b", 9, api.ErrSyntax},
		{"function\nf { a; }", "b", 8, api.ErrSyntax},
		{"function f a", "b", 11, api.ErrSyntax},
		{"((1) )", "b", 4, api.ErrSyntax},
		{"((1+))", "b", 4, api.ErrSyntax},
		{"((1;2))", "b", 3, api.ErrSyntax},
		{"((1)) a", "b", 6, api.ErrSyntax},
		{"[[ ]]", "b", 3, api.ErrSyntax},
		{"[[ ! ]]", "b", 5, api.ErrSyntax},
		{"[[ ( ) ]]", "b", 5, api.ErrSyntax},
		{"[[ a b ]]", "b", 5, api.ErrSyntax},
		{"[[ a = ]]", "b", 7, api.ErrSyntax},
		{"[[ -n a b ]]", "b", 8, api.ErrSyntax},
		{"[[ a = b c ]]", "b", 9, api.ErrSyntax},
		{"[[ a '=' b ]]", "b", 5, api.ErrSyntax},
		{"[[ a && ]]", "b", 8, api.ErrSyntax},
		{"[[ a < b ]]", "b", 5, api.ErrSyntax},
		{"[[ a = (b) ]]", "b", 7, api.ErrSyntax},
		{"[[ a; ]]", "b", 4, api.ErrSyntax},
		{"[[ (a ]]", "b", 6, api.ErrSyntax},
		{"[[ a ]] ]]", "b", 8, api.ErrSyntax},
		{"[[ a -gt= b ]]", "b", 5, api.ErrSyntax},
		{"a $(b", "sb", 5, api.ErrShort},
		{"a $(if b) c", "sb", 8, api.ErrSyntax},
		{"a $(b &&)", "sb", 8, api.ErrSyntax},
		{"a $(b; then)", "sb", 7, api.ErrSyntax},
		{"a $(b <<E\nc\nE\n)", "sb", 6, api.ErrSyntax},
		{"a $({ b 0<<E\nc\nE\n})", "sb", 9, api.ErrSyntax},
		{"a <(b <<E\nc\nE\n)", "b", 6, api.ErrSyntax},
		{"a $(case b in c) d;; esac)", "sb", 15, api.ErrSyntax},
		{"a $(b ${c) d}", "sb", 9, api.ErrSyntax},
		{"a $(b $(c |))", "sb", 11, api.ErrSyntax},
		{"a <<E\n$(b |)\nE\n", "sb", 11, api.ErrSyntax},
		{"a <<E\n${b\nE\n", "sb", 9, api.ErrSyntax},
		{"a `b`", "sb", 2, api.ErrSyntax},
		{"a ${b!}", "sb", 5, api.ErrSyntax},
		{"a $((1+))", "sb", 7, api.ErrSyntax},
		{"a $'b\\q'", "b", 5, api.ErrSyntax},
		{"a $" + strings.Repeat("b", 65), "sb", 3, api.ErrLong},
		{"a $(b $" + strings.Repeat("b", 65) + ")", "sb", 7, api.ErrLong},
		{"a $((" + strings.Repeat("!", 61) + "1))", "sb", 65, api.ErrDepth},
		{"a; ((" + strings.Repeat("!", 61) + "1))", "b", 65, api.ErrDepth},
		{"a; ((" + strings.Repeat(" ", api.MaxText+1) + "))", "b", 5, api.ErrLong},
		{"a[" + strings.Repeat(" ", api.MaxText+1) + "]=", "b", 2, api.ErrLong},
	} {
		for _, d := range strings.Split(x.dialects, "") {
			c, n, e := Script(x.s, d == "b")
			if want := told(api.Cmd{}, x.place, x.errno); told(c, n, e) != want {
				t.Errorf("P14.1: Script(%q, %s): %s, not %s", x.s, d, told(c, n, e), want)
			}
		}
	}
}
