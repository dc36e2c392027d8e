package print

import (
	"strings"
	"testing"

	"cowrie/api"
)

// canons is a script, the dialects in which it is read, and its canonical text there.
type canons struct{ s, names, want string }

func holds(t *testing.T, l []canons) {
	t.Helper()
	for _, x := range l {
		for _, bash := range dialects(x.names) {
			is(t, x.s, bash, x.want)
		}
	}
}

// TestCommands: P15.1 to P15.3, commands of each kind.
func TestCommands(t *testing.T) {
	holds(t, []canons{
		{"", "sb", ""},
		{" \n; #a\n", "sb", ""},
		{"a;b", "sb", "a\nb\n"},
		{"a\tb  c #d", "sb", "a b c\n"},
		{"a&&b||c", "sb", "a && b || c\n"},
		{"a &&\n! b|c; d", "sb", "a && ! b | c\nd\n"},
		{"!a", "sb", "!a\n"},
		{"! a|\nb|c", "sb", "! a | b | c\n"},
		{"(a;b)>c", "sb", "(\na\nb\n) >c\n"},
		{"( (a) )", "sb", "(\n(\na\n)\n)\n"},
		{"{ a;b;} 2>&1", "sb", "{\na\nb\n} 2>&1\n"},
		{"if a;b;then c;fi", "sb", "if a\nb\nthen\nc\nfi\n"},
		{"if a;then b;else c;fi", "sb", "if a\nthen\nb\nelse\nc\nfi\n"},
		{"if a;then b;elif c;then d;elif e;then f;else g;fi >h", "sb", "if a\nthen\nb\nelif c\nthen\nd\nelif e\nthen\nf\nelse\ng\nfi >h\n"},
		{"if a;then b;else if c;then d;fi;fi", "sb", "if a\nthen\nb\nelif c\nthen\nd\nfi\n"},
		{"if a;then b;else if c;then d;fi >e;fi", "sb", "if a\nthen\nb\nelse\nif c\nthen\nd\nfi >e\nfi\n"},
		{"if a;then b;else if c;then d;fi;e;fi", "sb", "if a\nthen\nb\nelse\nif c\nthen\nd\nfi\ne\nfi\n"},
		{"while a;do b;c;done <d", "sb", "while a\ndo\nb\nc\ndone <d\n"},
		{"until ! a;do b;done", "sb", "until ! a\ndo\nb\ndone\n"},
		{"for x in a 'b c' $d;do e;done >f", "sb", "for x in a 'b c' ${d}\ndo\ne\ndone >f\n"},
		{"for x in;do e;done", "sb", "for x in\ndo\ne\ndone\n"},
		{"for x do e;done", "sb", "for x\ndo\ne\ndone\n"},
		{"for in in in do done;do e;done", "sb", "for in in in do done\ndo\ne\ndone\n"},
		{"case a in esac", "sb", "case a in\nesac\n"},
		{"case $a in b|c*)d;e;;(esac);;\n'f')(g);;esac <h", "sb", "case ${a} in\n(b | c*)\nd\ne\n;;\n(esac)\n;;\n('f')\n(\ng\n)\n;;\nesac <h\n"},
		{"f(){ a;}", "sb", "f() {\na\n}\n"},
		{"f ()\n\n(a)>b", "sb", "f() (\na\n) >b\n"},
		{"function f { a;}", "b", "f() {\na\n}\n"},
		{"function f()\nif a;then b;fi", "b", "f() if a\nthen\nb\nfi\n"},
		{"function if { a;}; function function { a;}; function in ((1))", "b", "function if {\na\n}\nfunction function {\na\n}\nfunction in ((1))\n"},
		{"local() { a;}", "sb", "local() {\na\n}\n"},
		{"f() ((1))", "b", "f() ((1))\n"},
		{"[[ a ]] >b", "b", "[[ a ]] >b\n"},
		{"((a = 1 + 2 , b))>c", "b", "((a=1+2,b)) >c\n"},
		{"((a + 1))", "s", "(\n(\na + 1\n)\n)\n"},
		{"(( ))", "b", "((0))\n"},
		{"for((a = 0;a < 5;a++))do b;done>c", "b", "for ((a=0;a<5;a++))\ndo\nb\ndone >c\n"},
		{"for((;;));do b;done", "b", "for ((0;0;0))\ndo\nb\ndone\n"},
		{"local", "b", "local\n"},
		{"local a b= c='d'e", "b", "local a b= c='d'e\n"},
		{"local a", "s", "local a\n"},
	})
}

// TestSimple: P15.1 to P15.3, simple commands: assignments, redirections, first words.
func TestSimple(t *testing.T) {
	holds(t, []canons{
		{"a=b  c= d='' e=f=g h=#i", "sb", "a=b c= d='' e=f=g h=#i\n"},
		{"a=\"$b\"c if=1", "sb", "a=\"${b}\"c if=1\n"},
		{"a+=b c[1 + x]=d e[0]+= f[]=#g h=(i 'j' k=l) m+=( )", "b", "a+=b c[1+x]=d e[0]+= f[0]=#g h=(i 'j' k=l) m+=()\n"},
		{"a+=b a[1]=b", "s", "a+=b a[1]=b\n"},
		{"a[- -b]=c a[(b,c)*d]=e", "b", "a[- -b]=c a[(b,c)*d]=e\n"},
		{"1a=b a'='b 'a'=b", "sb", "1a=b a'='b 'a'=b\n"},
		{">a b <c", "sb", "b >a <c\n"},
		{">a", "sb", ">a\n"},
		{">a b=c", "sb", "b=c >a\n"},
		{"a 0<b 1>c 1>>d 2>e 0>f 1<g 2>&1 >&2 0>&1", "sb", "a <b >c >>d 2>e 0>f 1<g 2>&1 >&2 0>&1\n"},
		{"a <<<b 2<<<'c' &>d 1&>e 0&>f", "b", "a <<<b 2<<<'c' &>d &>e 0&>f\n"},
		{"a 2 >b 1 0<c", "sb", "a 2 1 >b <c\n"},
		{"a < <(b) > <(c) <(d) <<< <(e)", "b", "a <(d) < <(b) > <(c) <<< <(e)\n"},
		{"a >&'1' >&2''", "sb", "a >&'1' >&2''\n"},
		{">a if b", "sb", ">a if b\n"},
		{">a ! b <c; <d } ; <e [[ a ]]", "sb", ">a <c ! b\n<d }\n<e [[ a ]]\n"},
		{"2>a function", "sb", "2>a function\n"},
		{"'if' a; \\if; i'f'", "sb", "'if' a\n'i'f\ni'f'\n"},
		{"a if then !", "sb", "a if then !\n"},
		{"'local' a", "sb", "'local' a\n"},
		{"x[1] a; a[b]c=d", "sb", "x[1] a\na[b]c=d\n"},
		{"a\\\n[1]=b; a\\\n[1]+=b; a\\\n[; b]=c; a\\\n['b']=c; a\\\n[b c", "b", "a\\\n[1]=b\na\\\n[1]+=b\na\\\n[\nb]=c\na\\\n['b']=c\na\\\n[b c\n"},
		{"a[1]=b; a[; b]=c", "s", "a[1]=b\na[\nb]=c\n"},
		{"[ a = b ]; [a]=b", "sb", "[ a = b ]\n[a]=b\n"},
	})
}

// TestWords: P15.1 to P15.3, words and their parts.
func TestWords(t *testing.T) {
	holds(t, []canons{
		{"a 'b' \"c\" \\d e\"f\"g", "sb", "a 'b' 'c' 'd' e'f'g\n"},
		{"a '' \"\" ''b \"\"$c''", "sb", "a '' '' ''b ''${c}''\n"},
		{"a \"it's\" \\' 'b\nc' \"\\\"\\\\\\$\"", "sb", "a 'it'\\''s' ''\\''' 'b\nc' '\"\\$'\n"},
		{"a $ \"$\" $'b'", "s", "a '$' '$' '$b'\n"},
		{"a $'b\\tc\\'' 'd'$'e'\"f\"", "b", "a 'b\tc'\\''' 'def'\n"},
		{"a b#c \\# ~ a{b,c} *?[d-e] = % \xff\x01", "sb", "a b#c '#' ~ a{b,c} *?[d-e] = % \xff\x01\n"},
		{"$a ${b} $1 ${10} $@ $* $# $?", "sb", "${a} ${b} ${1} ${10} ${@} ${*} ${#} ${?}\n"},
		{"a \"$b\" \"c $d\ne\\$\\\"\\\\\\`\" \"$f\"\"$g\"'h'", "sb", "a \"${b}\" \"c ${d}\ne\\$\\\"\\\\\\`\" \"${f}${g}h\"\n"},
		{"a \"$b\"''\"$c\" ''\"$d\"", "sb", "a \"${b}\"''\"${c}\" ''\"${d}\"\n"},
		{"a ${b-c} ${b:-c d} ${b=$c} ${b:='c'} ${b?} ${b:?\"c$d\"} ${b+c\nd} ${b:+'}'}", "sb", "a ${b-c} ${b:-c d} ${b=${c}} ${b:='c'} ${b?} ${b:?\"c${d}\"} ${b+c\nd} ${b:+'}'}\n"},
		{"a ${b-;&|<>()} ${b#/}", "sb", "a ${b-;&|<>()} ${b#/}\n"},
		{"a \"${b-c $d '\\\"\\$\\\\\\`}\" \"${b:+${c-d}}\"", "sb", "a \"${b-c ${d} '\\\"\\$\\\\\\`}\" \"${b:+${c-d}}\"\n"},
		{"a ${b#c} ${b##*/} ${b%.*} ${b%%'c'} \"${b#'c'}\" \"${b%\"$c\"*}\"", "sb", "a ${b#c} ${b##*/} ${b%.*} ${b%%'c'} \"${b#'c'}\" \"${b%\"${c}\"*}\"\n"},
		{"a ${#b} ${#1} ${##} ${#?} ${#@} ${#*} ${#-b} ${#?b}", "sb", "a ${#b} ${#1} ${##} ${#?} ${#@} ${#*} ${#-b} ${#?b}\n"},
		{"a ${##\\\n} ${#?\\\n} ${###} ${b#\\\n#c} ${b%\\\n%c} ${b##} ${b###}", "sb", "a ${##\\\n} ${#?\\\n} ${###} ${b#\\\n#c} ${b%\\\n%c} ${b##} ${b###}\n"},
		{"a \"${##\\\n}\" \"${b#\\\n#c}\" \"${#?\\\n}\"", "sb", "a \"${##\\\n}\" \"${b#\\\n#c}\" \"${#?\\\n}\"\n"},
		{"a ${b-<(c} \"${b-<(c}\"", "s", "a ${b-<\\\n(c} \"${b-<(c}\"\n"},
		{"a ${b-<\\\n(c} ${b-<<(c)} ${b#<\\\n(} ${b/<\\\n(/<(c)<(d)}", "b", "a ${b-<\\\n(c} ${b-<<(c)} ${b#<\\\n(} ${b/<\\\n(/<(c)<(d)}\n"},
		{"a ${b/c/d} ${b//c} ${b/c/} ${b///c} ${b/\\\n/c} ${b//} ${b/} ${b/'/'/ /} \"${b/'c'/d }\"", "b", "a ${b/c/d} ${b//c} ${b/c} ${b///c} ${b/\\\n/c} ${b//} ${b/} ${b/'/'/ /} \"${b/'c'/d }\"\n"},
		{"a ${b^} ${b^^} ${b,} ${b,,} ${b[@]} ${b[*]} ${#b[@]} ${b[1 + c]} ${@[1]}", "b", "a ${b^} ${b^^} ${b,} ${b,,} ${b[@]} ${b[*]} ${#b[@]} ${b[1+c]} ${@[1]}\n"},
		{"a ${b:1} ${b: -1} ${b: 1 : -2} ${b:c ? 1 : 2 : 3} ${b: ++c} ${b:} ${b::} ${@:2} ${#:1}", "b", "a ${b:1} ${b: -1} ${b:1:-2} ${b:c?1:2:3} ${b: ++c} ${b:0} ${b:0:0} ${@:2} ${#:1}\n"},
		{"a $((1 + 2)) \"$(( (a + b) * c ))\" $(())", "sb", "a $((1+2)) \"$(((a+b)*c))\" $((0))\n"},
		{"a $((- - 1)) $((18446744073709551615)) $((0x10))", "sb", "a $((- -1)) $((-(0+1))) $((16))\n"},
		{"a $((--b)) $((b ** 2))", "b", "a $((--b)) $((b**2))\n"},
		{"a $((--b))", "s", "a $((- -b))\n"},
	})
}

// TestLists: P15.1 to P15.3, lists in words.
func TestLists(t *testing.T) {
	holds(t, []canons{
		{"a $() $(b) $(b;c) \"$(b c)\" x$( b )y", "sb", "a $() $(b) $(b\nc) \"$(b c)\" x$(b)y\n"},
		{"a <() <(b) <(b;c)d", "b", "a <() <(b) <(b\nc)d\n"},
		{"a $( (b) ) \"$( (b;c) )\"", "sb", "a $( (\nb\n)) \"$( (\nb\nc\n))\"\n"},
		{"a $( ((b)) ) <( ((b)) ) <((b))", "b", "a $( ((b))) <( ((b))) <( (\nb\n))\n"},
		{"a $(case b in (c)d;;esac)", "sb", "a $(case b in\n(c)\nd\n;;\nesac)\n"},
		{"a $(b \"c $d )\" ')' \\))", "sb", "a $(b \"c ${d} )\" ')' ')')\n"},
		{"a $(b \"${c#\\\"}\" \"${c#'d'}\")", "sb", "a $(b \"${c#''\\\"''}\" \"${c#'d'}\")\n"},
		{"a \"${c#\\\"}\" \"$(b 'c\"')\"", "sb", "a \"${c#'\"'}\" \"$(b 'c\"')\"\n"},
		{"a $(b \"$(c 'd)' '('\"$e\" \\\")\")", "sb", "a $(b \"$(c 'd)' '('\"${e}\" ''\\\"'')\")\n"},
		{"f() { a=$(b \"$(c \"$d\" e)\"); }", "sb", "f() {\na=$(b \"$(c \"${d}\" e)\")\n}\n"},
		{"a $(# (\nb ${c-)}\n)", "sb", "a $(# (\nb ${c-)}\n# \n)\n"},
		{"a $(# (\nb ${c-)(}d\n# )\n)", "sb", "a $(# (\nb ${c-)(}d\n# )\n)\n"},
		{"a $(# ((((\nb ${c-))}\n# ))\n)", "sb", "a $(# ((\nb ${c-))}\n# \n)\n"},
		{"a $(# \"\nb ${c-(}\n# \"\n)", "sb", "a $(b ${c-(}\n# )\n)\n"},
		{"a $('b' ${c-(}\n# )\n)", "sb", "a $('b' ${c-(}\n# )\n)\n"},
		{"a $(b \"$c\" 'd\"e')", "sb", "a $(b \"${c}\" 'd\"e')\n"},
		{"a $(b \"${c#\"${d-'(}\"}\"\n# '\n)", "sb", "a $(b \"${c#\"${d-'(}\"}\"\n# '\n)\n"},
		{"a $(b \"${c#\"${d-(}\"}\"\n# )\n)", "sb", "a $(b \"${c#\"${d-(}\"}\"\n# )\n)\n"},
		{"a $(# \"\nb \"$(c \"${d-(}\" e)\"\n# \"\n)", "sb", "a $(b \"$(c \"${d-(}\" e)\"\n# )\n)\n"},
		{"a $(# (\nb \"$(c \"${d-'}\" 'q'\\''r')\"\n# \"\n)", "sb", "a $(# (\nb \"$(c \"${d-'}\" 'q'\\''r')\"\n# \"\n)\n"},
		{"a $(b ${c-\"${d-\\\"}\"}\n)", "sb", "a $(b ${c-\"${d-\\\"}\"})\n"},
		{"a $(b \"$(c \"${d-'}\" e)\"\n# '\n)", "sb", "a $(b \"$(c \"${d-'}\" e)\"\n# '\n)\n"},
	})
}

// TestHeredocs: P15.1 to P15.3, heredocs: what stands for their lines, and where these stand.
func TestHeredocs(t *testing.T) {
	holds(t, []canons{
		{"a <<E\nE", "sb", "a <<'EOF'\nEOF\n"},
		{"a <<E\n$b \\$c \"d\" 'e' \\\\ \\` \\f\nE\n", "sb", "a <<EOF\n${b} \\$c \"d\" 'e' \\\\ \\` \\\\f\nEOF\n"},
		{"a <<'E'\n$b `c` \\\nE\n", "sb", "a <<'EOF'\n$b `c` \\\nEOF\n"},
		{"a 2<<E b <<F\nc\nE\nd\nF\n", "sb", "a b 2<<'EOF' <<'EOF'\nc\nEOF\nd\nEOF\n"},
		{"a <<E\nEOF\nEOF1\n$b EOF2\nE\n", "sb", "a <<EOF2\nEOF\nEOF1\n${b} EOF2\nEOF2\n"},
		{"a <<E\nEOF\nE\n", "sb", "a <<'EOF1'\nEOF\nEOF1\n"},
		{"a <<E\n$b\\\nE\n", "sb", "a <<EOF\n${b}\\\nEOF\n"},
		{"a <<E\nb\\\nE\n", "sb", "a <<EOF\nb\\\nEOF\n"},
		{"a <<E\n\\\\\\\nE\n", "sb", "a <<EOF\n\\\\\\\nEOF\n"},
		{"a <<E\n\\\nE\n", "sb", "a <<'EOF'\nEOF\n"},
		{"a <<E\n${b-c\\\"} $((1 + 2)) $(d;e)\nE\n", "sb", "a <<EOF\n${b-c\\\"} $((1+2)) $(d\ne)\nEOF\n"},
		{"a <<E | b <<F && c\n$d\nE\ne\nF\nf", "sb", "a <<EOF | b <<'EOF' && c\n${d}\nEOF\ne\nEOF\nf\n"},
		{"if a <<E; then\nb\nE\nc; fi <<E\nd\nE\n", "sb", "if a <<'EOF'\nb\nEOF\nthen\nc\nfi <<'EOF'\nd\nEOF\n"},
		{"a <<E | { b; }\nc\nE\n", "sb", "a <<'EOF' | {\nc\nEOF\nb\n}\n"},
		{"(a <<E) <<F\nb\nE\nc\nF\n", "sb", "(\na <<'EOF'\nb\nEOF\n) <<'EOF'\nc\nEOF\n"},
		{"f() { a; } <<E\n$b\nE\n", "sb", "f() {\na\n} <<EOF\n${b}\nEOF\n"},
		{"a <<E 'b\nc'\nd\nE\n", "sb", "a 'b\nc' <<'EOF'\nd\nEOF\n"},
		{"<<E if\na\nE\n", "sb", "<<'EOF' if\na\nEOF\n"},
	})
}

// TestConditions: P15.1 to P15.3, conditions.
func TestConditions(t *testing.T) {
	holds(t, []canons{
		{"[[ a ]]", "b", "[[ a ]]\n"},
		{"[[ -n a && -z $b||! -e c ]]", "b", "[[ -n a && -z ${b} || ! -e c ]]\n"},
		{"[[ a = b && c == d* && e != 'f' ]]", "b", "[[ a = b && c == d* && e != 'f' ]]\n"},
		{"[[ 1 -eq 2 || 1 -ne 2 || 1 -lt 2 || 1 -le 2 || 1 -gt 2 || 1 -ge 2 ]]", "b", "[[ 1 -eq 2 || 1 -ne 2 || 1 -lt 2 || 1 -le 2 || 1 -gt 2 || 1 -ge 2 ]]\n"},
		{"[[ ((a)) ]]", "b", "[[ a ]]\n"},
		{"[[ (a||b)&&(c&&d)||(e||f) ]]", "b", "[[ ( a || b ) && ( c && d ) || ( e || f ) ]]\n"},
		{"[[ (a&&b)&&c ]]", "b", "[[ a && b && c ]]\n"},
		{"[[ ! ! (a) && ! (b&&c) && ! (! (d||e)) ]]", "b", "[[ ! ! a && ! ( b && c ) && ! ! ( d || e ) ]]\n"},
		{"[[ -n ]]", "b", "[[ -n ]]\n"},
		{"[[ -n = b && -n -n && = = = && -n ! && a = ! ]]", "b", "[[ -n = b && -n -n && = = = && -n ! && a = ! ]]\n"},
		{"[[\na\n&&\nb\n]]", "b", "[[ a && b ]]\n"},
		{"[[ -f <(a) && \"$(b;c)\" = ${d-e f} ]]", "b", "[[ -f <(a) && \"$(b\nc)\" = ${d-e f} ]]\n"},
	})
}

// TestFaults: P15.1, Canon of what is no script, or has no text that is short enough.
func TestFaults(t *testing.T) {
	for _, x := range []struct {
		s, names string
		place    int
		errno    api.Errno
	}{
		{"a )", "sb", 2, api.ErrSyntax},
		{"(a", "sb", 2, api.ErrShort},
		{"a $b`", "sb", 4, api.ErrSyntax},
		{"a\x00", "sb", 1, api.ErrText},
		{"[[ a ]]", "s", 0, api.ErrSyntax},
		{"a $((1 +))", "sb", 8, api.ErrSyntax},
		{strings.Repeat("a\n", api.MaxFile), "sb", 0, api.ErrLong},
		{strings.Repeat("{ ", 26) + "a" + strings.Repeat("\n}", 26), "sb", 50, api.ErrDepth},
		{strings.Repeat("a\n", api.MaxCmds+1), "sb", 2*api.MaxCmds + 2, api.ErrCount},
		{strings.Repeat("a", api.MaxFile), "sb", 0, api.ErrLong},
		{"a " + strings.Repeat("$b", api.MaxFile/3), "sb", 0, api.ErrLong},
	} {
		for _, bash := range dialects(x.names) {
			if s, n, e := Canon(x.s, bash); s != "" || n != x.place || e != x.errno {
				t.Errorf("P15.1: Canon(%.40q, %v): %.40q, %d, %d, not %d, %d", x.s, bash, s, n, e, x.place, x.errno)
			}
		}
	}
}
