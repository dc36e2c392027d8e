package print

import (
	"math/rand"
	"strings"
	"testing"

	"cowrie/api"
	"cowrie/parse"
)

// printed asks that a script that is read is printed, that its print is read as the script is, and is its own.
func printed(t *testing.T, s string, bash bool) {
	t.Helper()
	c, _, e := parse.Script(s, bash)
	if e != api.OK {
		return
	}
	want, n, e := Canon(s, bash)
	if e == api.ErrLong && len(s) > api.MaxFile/8 {
		return
	}
	if n != 0 || e != api.OK {
		t.Errorf("P15.2: Canon(%q, %v): %d, %d", s, bash, n, e)
		return
	}
	if d, n, e := parse.Script(want, bash); e != api.OK || n != len(want) || !parse.Same(Bare(c), Bare(d)) {
		t.Errorf("P15.2: the print of %q, %v, is %q, which is read as %v, %d, %d, not %v", s, bash, want, d, n, e, c)
	}
	if got, _, e := Canon(want, bash); got != want || e != api.OK {
		t.Errorf("P15.3: Canon of %q, %v, which is the print of %q: %q, %d", want, bash, s, got, e)
	}
}

// pieces: what scripts are made of here.
func pieces() []string {
	l := strings.Split("a|b|if |then |elif |else |fi|for |in |while |until |do |done|case |esac|{ |}|! |[[ | ]]|function |local |(|)|;|;;|\n|&&|BAR|BARBAR|<|>|>>|>&|<<<|&>|1|2|x=|x+=|x[|]=|x=(|((|))|$(|$(a)|<(|<(a)|'|\"|'q'|${|${x|${#|#|-|:-|:|%|/|//|^|[@]|@|*|?|+|=|==|-n |-eq |\\\n|\\|\\\"|$x|$|# (\n|# \"\n|# '\n|0|18446744073709551615|f()|$'|\"$(|)\"|\"${x|}\"| |<<E\n|E\n|<<'E'\n$x\nE\n|if a;then b;fi|for x in a;do b;done|case a in b)c;;esac|[[ a ]]|((1))|for((;;))", "|")
	for i := range l {
		l[i] = strings.ReplaceAll(l[i], "BAR", "|")
	}
	return l
}

// TestShort: P15.2, P15.3, all scripts of at most two pieces, and many longer ones.
func TestShort(t *testing.T) {
	l := pieces()
	good := 0
	try := func(s string) {
		for _, bash := range []bool{false, true} {
			printed(t, s, bash)
			if _, _, e := parse.Script(s, bash); e == api.OK {
				good++
			}
		}
	}
	for _, a := range l {
		try(a)
		for _, b := range l {
			try(a + b)
			try("a " + a + b)
			try("a \"${x#" + a + b + "}\"")
			try("x=$(" + a + b + ")")
		}
	}
	r := rand.New(rand.NewSource(1))
	for range 100000 {
		var s strings.Builder
		for range 3 + r.Intn(6) {
			s.WriteString(l[r.Intn(len(l))])
		}
		try(s.String())
		if t.Failed() {
			return
		}
	}
	if good < 20000 {
		t.Error("P15.2: so many scripts were read:", good)
	}
}

// TestOctets: P15.2, all texts of at most two octets, quoted in each way and not at all, alone, in braces, in lists and heredocs.
func TestOctets(t *testing.T) {
	try := func(s string) {
		for _, around := range []string{"_", "a _", "a '_'", "a \"_\"", "a \\_", "a ${b-_}", "a ${b#_}", "a \"${b-_}\"", "a \"${b%_}\"", "a ${b:_}", "a $((_))", "a $(_)", "a $(b _)", "a \"$(b '_' \"$(c \"_\")\")\"", "a <<E\n_\nE\n", "a <<'E'\n_\nE\n", "a=_", "a >_"} {
			printed(t, strings.ReplaceAll(around, "_", s), false)
			printed(t, strings.ReplaceAll(around, "_", s), true)
		}
		for _, around := range []string{"a $'_'", "a ${b/_}", "a ${b/c/_}", "a <(_)", "[[ _ ]]", "[[ a = _ ]]", "a[_]=b", "a=(_)", "((_))", "local _"} {
			printed(t, strings.ReplaceAll(around, "_", s), true)
		}
	}
	for a := range 256 {
		try(string([]byte{byte(a)}))
	}
	some := "a1 \t\n'\"\\$`{}()<>|&;#!*?[]=+-/%,:@~^\x01\xff"
	for i := range len(some) {
		for j := range len(some) {
			try(string([]byte{some[i], some[j]}))
		}
		if t.Failed() {
			return
		}
	}
}
