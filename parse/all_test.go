package parse

import (
	"math/rand"
	"slices"
	"strings"
	"testing"
)

// against holds Script against the model.
func against(t *testing.T, s string) {
	t.Helper()
	for _, bash := range []bool{false, true} {
		c, n, e := Script(s, bash)
		if got, want := told(c, n, e), slowScript(s, bash); got != want {
			t.Errorf("P14.1: Script(%q, %v):\n%s, not\n%s", s, bash, got, want)
		}
	}
}

// pieces: what scripts are made of here.
func pieces() []string {
	return strings.Split("a|b|if|then|elif|else|fi|for|in|while|until|do|done|case|esac|{|}|!|[[|]]|function|local|select|(|)|;|;;|\n|&&|BAR|BARBAR|&|<|>|>>|>&|<<|<<<|&>|1|2|x=|x=1|x+=|x[1]=|x[1+]=|x=(|((|))|((x))|$(|$(a)|<(|<(a)|'q'|\"|\"$(b)\"|${x-|${x-$(a)}|}|'|#|$x|f()|f (|function f|-n|-f|=|==|-eq|\\\n|E|\nE\n|x\nE\n|<<E", "|")
}

func scripts() []string {
	l := pieces()
	for i := range l {
		l[i] = strings.ReplaceAll(l[i], "BAR", "|")
	}
	return l
}

// TestShort: all scripts of at most three pieces are read as the model reads them.
func TestShort(t *testing.T) {
	l := scripts()
	against(t, "")
	for _, a := range l {
		against(t, a)
		for _, b := range l {
			against(t, a+b)
			against(t, a+" "+b)
		}
	}
	r := rand.New(rand.NewSource(1))
	for range 15000 {
		var all []string
		for range 3 + r.Intn(4) {
			all = append(all, l[r.Intn(len(l))])
		}
		against(t, strings.Join(all, []string{"", " "}[r.Intn(2)]))
		if t.Failed() {
			return
		}
	}
}

// maker makes scripts that the grammar has, token by token.
type maker struct{ *rand.Rand }

// of: one of the texts.
func (m maker) of(all string) string {
	l := strings.Fields(all)
	return l[m.Intn(len(l))]
}

// times: what make makes, least to most times.
func (m maker) times(least, most int, make func() []string) []string {
	var out []string
	for range least + m.Intn(most-least+1) {
		out = append(out, make()...)
	}
	return out
}

// maybe: the tokens, or none.
func (m maker) maybe(l ...string) []string {
	if m.Intn(2) == 0 {
		return nil
	}
	return l
}

func (m maker) sep() []string {
	return [][]string{{";"}, {"\n"}, {";", "\n"}, {"\n", "\n"}}[m.Intn(4)]
}

func (m maker) list(deep int) []string {
	out := m.chain(deep)
	for range m.Intn(2) {
		out = slices.Concat(out, m.sep(), m.chain(deep))
	}
	return append(out, m.sep()...)
}

func (m maker) chain(deep int) []string {
	out := append(m.maybe("!"), m.command(deep)...)
	for m.Intn(3) == 0 {
		op := m.of("&& || |")
		out = append(append(out, op), m.maybe("\n")...)
		if op != "|" {
			out = append(out, m.maybe("!")...)
		}
		out = append(out, m.command(deep)...)
	}
	return out
}

func (m maker) words() []string {
	return m.times(1, 2, func() []string {
		return []string{m.of(`a b "$x" 'q'r ${x-$(a)} $(b;c) "$(d)" $((1+x)) 1 x=2 in } <(e) esac fi`)}
	})
}

func (m maker) redirs() []string {
	if m.Intn(4) > 0 {
		return nil
	}
	return m.times(1, 2, func() []string { return []string{m.of(`<a >b 2>>$(c) 2>&1 <<E <<'E' <<<x &>y 0<z 1>&2`)} })
}

func (m maker) command(deep int) []string {
	if deep == 0 || m.Intn(3) == 0 {
		return m.flat()
	}
	if m.Intn(6) == 0 {
		return append(strings.Split(m.of("f,() g(),\n h,(,) function,k function,l,()"), ","), m.compound(deep-1)...)
	}
	return m.compound(deep - 1)
}

func (m maker) flat() []string {
	switch m.Intn(5) {
	case 0:
		return append(m.times(1, 2, func() []string {
			return strings.Split(m.of("x=1 y= z+=2 a[1]=b a[x+1]+=c a=() a=(,b,c,) x=$(a) y=\"$z\""), ",")
		}), m.redirs()...)
	case 1:
		return append([]string{"local"}, m.times(0, 2, func() []string { return []string{m.of(`x y=1 z="a" w=$(a)`)} })...)
	}
	return slices.Concat(m.redirs(), []string{m.of("a b echo : [ 'if' $x x[1]")}, m.words(), m.redirs())
}

func (m maker) cond(deep int) []string {
	switch m.Intn(6 - min(deep, 1)*2) {
	case 0:
		return slices.Concat(m.cond(deep-1), m.maybe("\n"), []string{m.of("&& ||")}, m.maybe("\n"), m.cond(deep-1))
	case 1:
		return slices.Concat([]string{"!"}, m.maybe("\n"), m.cond(deep-1))
	case 2:
		return slices.Concat([]string{"("}, m.maybe("\n"), m.cond(deep-1), m.maybe("\n"), []string{")"})
	case 3:
		return slices.Concat([]string{m.of(`a "$x" -n =`)}, m.maybe("\n"), []string{m.of("= == != -eq -lt")}, m.maybe("\n"), []string{m.of("a $x -n 'q'*")})
	case 4:
		return []string{m.of("-n -z -f"), m.of("a $x $(b) -n = !")}
	}
	return []string{m.of(`a "$x" $(b) -n =`)}
}

func (m maker) compound(deep int) []string {
	return append(m.form(deep), m.redirs()...)
}

func (m maker) form(deep int) []string {
	list := func() []string { return m.list(deep) }
	around := func(l ...any) []string {
		var out []string
		for _, x := range l {
			if s, ok := x.(string); ok {
				out = append(out, s)
			} else {
				out = append(out, x.([]string)...)
			}
		}
		return out
	}
	switch m.Intn(11) {
	case 0:
		return around("(", list(), ")")
	case 1:
		return around("{", list(), "}")
	case 2:
		return around("if", list(), "then", list(), m.times(0, 1, func() []string { return around("elif", list(), "then", list()) }), m.maybe(around("else", list())...), "fi")
	case 3:
		return around(m.of("while until"), list(), "do", list(), "done")
	case 4:
		return around("for", m.of("x y in"), m.maybe("\n"), "in", m.times(0, 1, m.words), m.sep(), "do", list(), "done")
	case 5:
		return around("for", "x", m.maybe(m.sep()...), "do", list(), "done")
	case 6:
		return around("case", m.of("a $x esac"), m.maybe("\n"), "in", m.maybe("\n"), m.times(0, 2, func() []string {
			return around(m.maybe("("), m.of("b $y c* in"), m.maybe("|", m.of("esac d")), ")", m.maybe(list()...), ";;", m.maybe("\n"))
		}), "esac")
	case 7:
		return around("((", m.of("1 x x=1 (x)"), "))")
	case 8:
		return around("for", "((", m.of(";; x=1;x;x++ ;1;"), "))", m.maybe(m.sep()...), "do", list(), "done")
	}
	return around("[[", m.maybe("\n"), m.cond(deep), m.maybe("\n"), "]]")
}

// script: the tokens with blanks between; behind a newline the lines of heredocs.
func script(l []string) string {
	var out strings.Builder
	open := 0
	for _, x := range l {
		out.WriteString(x)
		if strings.HasSuffix(x, "<<E") || strings.HasSuffix(x, "<<'E'") {
			open++
		}
		if x != "\n" {
			out.WriteString(" ")
			continue
		}
		for ; open > 0; open-- {
			out.WriteString("x $(a) $y\nE\n")
		}
	}
	return out.String()
}

// TestMade: scripts that the grammar has, and such with a token that is another one, or is left out, or has one ahead, or one where it ends, are read as the model reads them.
func TestMade(t *testing.T) {
	m := maker{rand.New(rand.NewSource(2))}
	l := scripts()
	good := 0
	for range 1500 {
		made := m.list(3)
		if len(made) > 60 {
			continue
		}
		against(t, script(made))
		if _, _, e := Script(script(made), true); e == 0 {
			good++
		}
		for range 3 {
			at := m.Intn(len(made))
			wrong := slices.Clone(made)
			switch m.Intn(4) {
			case 0:
				wrong[at] = l[m.Intn(len(l))]
			case 1:
				wrong = slices.Delete(wrong, at, at+1)
			case 2:
				wrong = slices.Insert(wrong, at, l[m.Intn(len(l))])
			case 3:
				wrong = wrong[:at]
			}
			against(t, script(wrong))
		}
		if t.Failed() {
			return
		}
	}
	if good < 500 {
		t.Error("P14.1: so many scripts were read without a fault:", good)
	}
}
