package parse

import (
	"fmt"
	"regexp"
	"slices"
	"strings"

	"cowrie/api"
	"cowrie/arith"
	"cowrie/lex"
	"cowrie/octets"
)

// model reads scripts by the chapter's grammar, slowly: in all ways that there are, each rule for all places where it may end. What it makes are shapes. The fault is the one of the word or operator that is farthest on, as that is the first that no way has a place for.
type model struct {
	s     string
	bash  bool
	inner bool
	far   int
	hard  bool
	errno api.Errno
	place int
}

// spot is how far a way has come: heredocs that wait, and those that were read, each as its mark and its shape.
type spot struct {
	at      int
	waiting []doc
	read    []string
}

// doc is a heredoc that waits for its lines.
type doc struct {
	mark, end string
	plain     bool
}

// way is one way to read, and what it makes.
type way struct {
	spot
	val string
}

type rule func(spot) []way

// fail notes that nothing stands at the place that may.
func (m *model) fail(at int) []way {
	errno := api.ErrSyntax
	if at == len(m.s) && !m.inner {
		errno = api.ErrShort
	}
	m.note(at, errno, at, false)
	return nil
}

// note keeps the fault that is farthest on; of one word a hard one, which is within it.
func (m *model) note(far int, errno api.Errno, place int, hard bool) {
	if far > m.far || far == m.far && hard && !m.hard {
		m.far, m.hard, m.errno, m.place = far, hard, errno, place
	}
}

// broken notes a fault within the word that begins at at.
func (m *model) broken(at int, errno api.Errno, place int) []way {
	if errno == api.ErrShort && m.inner && place == len(m.s) {
		errno = api.ErrSyntax
	}
	m.note(at, errno, place, true)
	return nil
}

// one: each of them once.
func one(l []way) []way {
	var out []way
	met := map[string]bool{}
	for _, w := range l {
		key := fmt.Sprint(w)
		if !met[key] {
			met[key] = true
			out = append(out, w)
		}
	}
	return out
}

// seq reads all of the rules, one behind the other, and makes what make says of what they make.
func seq(make func(at int, l []string) string, rules ...rule) rule {
	return func(s spot) []way {
		type half struct {
			spot
			l []string
		}
		now := []half{{s, nil}}
		for _, r := range rules {
			var next []half
			for _, h := range now {
				for _, w := range r(h.spot) {
					next = append(next, half{w.spot, append(slices.Clone(h.l), w.val)})
				}
			}
			now = next
		}
		var out []way
		for _, h := range now {
			out = append(out, way{h.spot, make(s.at, h.l)})
		}
		return one(out)
	}
}

// glue makes one text of all, with blanks between those that are not empty.
func glue(_ int, l []string) string {
	return strings.Join(slices.DeleteFunc(slices.Clone(l), func(x string) bool { return x == "" }), " ")
}

// alt reads one of the rules.
func alt(rules ...rule) rule {
	return func(s spot) []way {
		var out []way
		for _, r := range rules {
			out = append(out, r(s)...)
		}
		return one(out)
	}
}

// opt reads the rule, or nothing.
func opt(r rule) rule {
	return alt(r, func(s spot) []way { return []way{{s, ""}} })
}

// many reads the rule so often as it goes, and less often.
func many(r rule) rule {
	return func(s spot) []way {
		out := []way{{s, ""}}
		for _, w := range r(s) {
			for _, more := range many(r)(w.spot) {
				out = append(out, way{more.spot, glue(0, []string{w.val, more.val})})
			}
		}
		return one(out)
	}
}

// not drops what the rule makes.
func drop(r rule) rule {
	return seq(func(int, []string) string { return "" }, r)
}

// lazy makes the rule when it is read, as rules are within themselves.
func lazy(make func() rule) rule {
	return func(s spot) []way { return make()(s) }
}

func (m *model) space(s spot) spot {
	s.at = lex.Space(m.s, s.at)
	return s
}

// op: the operator.
func (m *model) op(text string) rule {
	return func(s spot) []way {
		s = m.space(s)
		if m.operator(s.at) != text {
			return m.fail(s.at)
		}
		from := s.at
		s.at += len(text)
		if text == "\n" {
			for _, d := range s.waiting {
				w, behind, e := lex.Heredoc(m.s, s.at, d.end, d.plain, m.bash)
				if e != api.OK {
					return m.broken(from, e, behind)
				}
				told, ok := m.told(from, w.Parts)
				if !ok {
					return nil
				}
				s.read = append(slices.Clone(s.read), d.mark, told)
				s.at = behind
			}
			s.waiting = nil
		}
		return []way{{s, ""}}
	}
}

func (m *model) operator(at int) string {
	if m.bash && strings.HasPrefix(m.s[at:], "<(") {
		return ""
	}
	return lex.Operator(m.s, at, m.bash)
}

// told: the shape of parts, with the lists in them; are these without a fault?
func (m *model) told(from int, l []api.Part) (string, bool) {
	ok := true
	out := partsShape(l, func(p api.Part) string {
		in := model{s: m.s[:p.At+len(p.Text)], bash: m.bash, inner: true, far: -1}
		told, good := in.all(p.At)
		if !good && ok {
			m.note(from, in.errno, in.place, true)
			ok = false
		}
		return told
	})
	return out, ok
}

// text: what a bare word says that begins just here.
func (m *model) text(at int) (string, int) {
	w, behind, e := lex.Word(m.s, at, m.bash)
	if e != api.OK || len(w.Parts) != 1 || w.Parts[0].Kind != 1 || w.Parts[0].Quoted {
		return "", at
	}
	return w.Parts[0].Text, behind
}

// bare: a bare word that is so.
func (m *model) bare(is func(string) bool) rule {
	return func(s spot) []way {
		s = m.space(s)
		text, behind := m.text(s.at)
		if text == "" || !is(text) {
			return m.fail(s.at)
		}
		s.at = behind
		return []way{{s, text}}
	}
}

// says: just that bare word.
func (m *model) says(text string) rule {
	return drop(m.bare(func(x string) bool { return x == text }))
}

// word: any word that may stand here, by its parts.
func (m *model) word(may func(at int, l []api.Part) bool) rule {
	return func(s spot) []way {
		s = m.space(s)
		from := s.at
		w, behind, e := lex.Word(m.s, s.at, m.bash)
		if e != api.OK {
			return m.broken(from, e, behind)
		}
		if len(w.Parts) == 0 || !may(from, w.Parts) {
			return m.fail(from)
		}
		told, ok := m.told(from, w.Parts)
		if !ok {
			return nil
		}
		s.at = behind
		return []way{{s, told}}
	}
}

func anything(int, []api.Part) bool { return true }

// bareIs: are the parts just that text?
func bareIs(l []api.Part, text string) bool {
	return len(l) == 1 && l[0].Kind == 1 && !l[0].Quoted && l[0].Text == text
}

var assignRule = regexp.MustCompile(`^([a-zA-Z_][a-zA-Z0-9_]{0,63})(=)`)
var bashAssign = regexp.MustCompile(`^([a-zA-Z_][a-zA-Z0-9_]{0,63})(\+?=)`)
var elementRule = regexp.MustCompile(`^([a-zA-Z_][a-zA-Z0-9_]{0,63})\[([^]]*)\](\+?=)`)

// assignment: does the word at at assign? Its name and sign.
func (m *model) assignment(at int, l []api.Part, bash bool) []string {
	r := assignRule
	if bash {
		if found := elementRule.FindStringSubmatch(m.s[at:]); found != nil {
			return found
		}
		r = bashAssign
	}
	if len(l) == 0 || l[0].Kind != 1 || l[0].Quoted {
		return nil
	}
	return r.FindStringSubmatch(l[0].Text)
}

// assign: a name and = , an element, an array.
func (m *model) assign(bash bool) rule {
	return func(s spot) []way {
		s = m.space(s)
		from := s.at
		if found := elementRule.FindStringSubmatch(m.s[from:]); bash && found != nil {
			behind := from + len(found[1]) + 1
			x, place, e := arith.Parse(found[2], bash)
			if e != api.OK {
				return m.broken(from, e, behind+place)
			}
			return m.value(s, from, from+len(found[0]), found[1]+"["+sumsShape([]api.Sum{x})+"]"+found[3])
		}
		w, behind, e := lex.Word(m.s, from, m.bash)
		if e != api.OK {
			return m.broken(from, e, behind)
		}
		found := m.assignment(from, w.Parts, bash)
		if found == nil {
			return m.fail(from)
		}
		w.Parts[0].Text = w.Parts[0].Text[len(found[0]):]
		told, ok := m.told(from, w.Parts)
		if !ok {
			return nil
		}
		s.at = behind
		out := []way{{s, found[0] + told}}
		if bash && told == "" && !(len(w.Parts) > 1) && strings.HasPrefix(m.s[behind:], "(") {
			out = append(out, seq(func(_ int, l []string) string {
				return found[0] + "(" + strings.Join(slices.DeleteFunc([]string{"", l[1]}, func(x string) bool { return x == "" }), "") + " )"
			}, m.op("("), m.many(" ", m.word(anything)), m.op(")"))(s)...)
		}
		return out
	}
}

// value: the text of an element, which may be none.
func (m *model) value(s spot, from, at int, head string) []way {
	w, behind, e := lex.Word(m.s, at, m.bash)
	if e != api.OK {
		return m.broken(from, e, behind)
	}
	told, ok := m.told(from, w.Parts)
	if !ok {
		return nil
	}
	s.at = behind
	return []way{{s, head + told}}
}

// many: the rule many times, what each makes with ahead ahead.
func (m *model) many(ahead string, r rule) rule {
	each := seq(func(_ int, l []string) string { return ahead + l[0] }, r)
	var all rule
	all = func(s spot) []way {
		out := []way{{s, ""}}
		for _, w := range each(s) {
			for _, more := range all(w.spot) {
				out = append(out, way{more.spot, w.val + more.val})
			}
		}
		return one(out)
	}
	return all
}

func redirOps() []string {
	return []string{"<", ">", ">>", ">&", "<<", "<<<", "&>"}
}

// digit: does a digit stand right ahead of a redirection?
func (m *model) digit(at int) bool {
	return at < len(m.s) && strings.Contains("012", m.s[at:at+1]) && slices.Contains(redirOps(), m.operator(at+1))
}

// redir: a redirection.
func (m *model) redir(s spot) []way {
	s = m.space(s)
	fd, ops := "", redirOps()
	if m.digit(s.at) {
		fd = m.s[s.at : s.at+1]
		s.at++
	}
	op := m.operator(s.at)
	switch {
	case !slices.Contains(ops, op), op == "<<" && m.inner:
		return m.fail(s.at)
	case fd == "" && op[0] == '<':
		fd = "0"
	case fd == "":
		fd = "1"
	}
	mark := fmt.Sprintf("#%d#", s.at)
	s.at += len(op)
	make := func(_ int, l []string) string { return " " + fd + op + l[0] }
	switch op {
	case ">&":
		return seq(make, m.word(func(_ int, l []api.Part) bool {
			t, ok := lex.Literal(api.Word{Parts: l})
			return ok && (t == "1" || t == "2")
		}))(s)
	case "<<":
		var d doc
		ways := m.word(func(_ int, l []api.Part) bool {
			w := api.Word{Parts: l}
			d = doc{mark, lex.Text(w), lex.Quoted(w)}
			_, ok := lex.Literal(w)
			return ok
		})(s)
		for i := range ways {
			ways[i].waiting = append(slices.Clone(ways[i].waiting), d)
			ways[i].val = " " + fd + op + mark
		}
		return ways
	}
	return seq(make, m.word(anything))(s)
}

// sep: ; or newlines.
func (m *model) sep() rule {
	return alt(m.op(";"), m.op("\n"))
}

// lines: newlines, or none.
func (m *model) lines() rule {
	return many(m.op("\n"))
}

// script: a list, or none; where it ends all is read.
func (m *model) all(at int) (string, bool) {
	for _, w := range alt(m.list(), many(m.sep()))(spot{at: at}) {
		s := m.space(w.spot)
		if s.at == len(m.s) && len(s.waiting) == 0 {
			out := w.val
			for i := 0; i < len(s.read); i += 2 {
				out = strings.Replace(out, s.read[i], s.read[i+1], 1)
			}
			return out, true
		}
		m.fail(s.at)
	}
	return "", false
}

// starts: the rule that is made for the place where what it reads begins.
func (m *model) starts(r func(at int) rule) rule {
	return func(s spot) []way {
		s = m.space(s)
		return r(s.at)(s)
	}
}

// placeOf: the place in a shape, which is the first number behind letters.
func placeOf(shape string) string {
	return regexp.MustCompile(`^[a-z]+(?::[a-zA-Z]+)?([0-9]+)\(`).FindStringSubmatch(shape)[1]
}

func (m *model) list() rule {
	return func(s spot) []way {
		item := m.many("\x00", seq(glue, m.chain(), drop(m.sep()), drop(many(m.sep()))))
		all := seq(func(_ int, l []string) string { return l[1] + "\x00" + l[2] }, drop(many(m.sep())), item, m.chain())
		behind := seq(func(_ int, l []string) string { return l[0] + l[1] }, all, drop(many(m.sep())))
		out := behind(s)
		for i, w := range out {
			kids := strings.Split(strings.TrimPrefix(w.val, "\x00"), "\x00")
			out[i].val = kids[0]
			if len(kids) > 1 {
				out[i].val = "seq" + placeOf(kids[0]) + "(" + strings.Join(kids, " ") + ")"
			}
		}
		return out
	}
}

func (m *model) chain() rule {
	more := m.many("\x01", seq(func(_ int, l []string) string { return l[0] + l[2] },
		alt(seq(func(int, []string) string { return "and" }, m.op("&&")), seq(func(int, []string) string { return "or" }, m.op("||"))), m.lines(), m.pipeline()))
	return seq(func(_ int, l []string) string {
		out := l[0]
		for _, x := range strings.Split(l[1], "\x01")[1:] {
			name := "or"
			if strings.HasPrefix(x, "and") {
				name = "and"
			}
			out = name + placeOf(out) + "(" + out + " " + x[len(name):] + ")"
		}
		return out
	}, m.pipeline(), more)
}

func (m *model) pipeline() rule {
	return m.starts(func(at int) rule {
		piped := seq(func(_ int, l []string) string {
			if l[1] == "" {
				return l[0]
			}
			return "pipe" + placeOf(l[0]) + "(" + l[0] + l[1] + ")"
		}, m.command(), m.many(" ", seq(func(_ int, l []string) string { return l[2] }, m.op("|"), m.lines(), m.command())))
		return alt(piped, seq(func(_ int, l []string) string { return fmt.Sprintf("not%d(%s)", at, l[1]) }, m.says("!"), piped))
	})
}

func (m *model) command() rule {
	return lazy(func() rule {
		l := []rule{m.simple(), m.compound(), m.function()}
		if m.bash {
			l = append(l, m.local())
		}
		return alt(l...)
	})
}

// simple: redirections and assignments, or redirections and words; reserved words, local and assignments are not the first of these.
func (m *model) simple() rule {
	return m.starts(func(at int) rule {
		make := func(_ int, l []string) string {
			var words, redirs string
			for _, x := range strings.Split(strings.Join(l, ""), "\x02") {
				if strings.HasPrefix(x, " ") {
					redirs += x
				} else if x != "" {
					words += " " + x[1:]
				}
			}
			return fmt.Sprintf("cmd%d(%s)", at, strings.TrimPrefix(words+redirs, " "))
		}
		redir := seq(func(_ int, l []string) string { return "\x02" + l[0] }, m.redir)
		assign := seq(func(_ int, l []string) string { return "\x02a" + l[0] }, m.assign(m.bash))
		word := func(may func(int, []api.Part) bool) rule {
			return seq(func(_ int, l []string) string { return "\x02w" + l[0] }, m.word(may))
		}
		first := word(func(from int, l []api.Part) bool {
			reserved := len(l) == 1 && l[0].Kind == 1 && !l[0].Quoted && octets.Reserved(l[0].Text) && from == at
			return !reserved && !m.digit(from) && !(m.bash && bareIs(l, "local")) && m.assignment(from, l, m.bash) == nil
		})
		other := word(func(from int, l []api.Part) bool { return !m.digit(from) })
		assigns := seq(make, alt(redir, assign), m.many("", alt(redir, assign)))
		words := seq(make, m.many("", redir), first, m.many("", alt(redir, other)))
		return ahead(alt(assigns, words), m.stops)
	})
}

// stops: nothing comes next that would be a word of a simple command.
func (m *model) stops(s spot) []way {
	s = m.space(s)
	if m.operator(s.at) == "" && s.at < len(m.s) {
		return m.fail(s.at)
	}
	return []way{{s, ""}}
}

// ahead reads both rules, and makes what the first one makes.
func ahead(a, b rule) rule {
	return seq(func(_ int, l []string) string { return l[0] }, a, b)
}

// compound: those that may have redirections behind. A form makes of its pieces a title, words, and what else there is.
func (m *model) compound() rule {
	return lazy(func() rule { return m.starts(m.compoundAt) })
}

func (m *model) compoundAt(at int) rule {
	form := func(name string, make func(l []string) (title, words, inner string), l ...rule) rule {
		return seq(func(_ int, l []string) string {
			last := len(l) - 1
			title, words, inner := make(l[:last])
			return fmt.Sprintf("%s%s%d(%s)", name, title, at, glue(0, []string{strings.TrimPrefix(words, " "), strings.TrimPrefix(l[last], " "), inner}))
		}, append(l, m.many("", m.redir))...)
	}
	inner := func(l []string) (string, string, string) { return "", "", glue(0, l) }
	list, turns := lazy(m.list), seq(glue, m.says("do"), lazy(m.list), m.says("done"))
	seps := drop(many(m.sep()))
	l := []rule{
		form("group", inner, m.says("{"), list, m.says("}")),
		form("if", inner, m.branch("if")),
		form("while", inner, m.says("while"), list, turns),
		form("until", inner, m.says("until"), list, turns),
		form("for", func(l []string) (string, string, string) {
			if words, ok := strings.CutPrefix(l[2], "w"); ok {
				return ":" + l[1], words, l[4]
			}
			return ":" + l[1], "", l[4] + " {: none0()}"
		}, m.says("for"), m.bare(octets.Name), m.in(), seps, turns),
		form("case", func(l []string) (string, string, string) { return "", l[1], l[5] },
			m.says("case"), m.word(anything), m.lines(), m.says("in"), m.lines(), many(m.branches()), m.says("esac")),
	}
	if !m.bash || !strings.HasPrefix(m.s[at:], "((") {
		l = append(l, form("sub", inner, m.op("("), list, m.op(")")))
	}
	if !m.bash {
		return alt(l...)
	}
	return alt(append(l,
		form("cond", inner, m.says("[["), m.lines(), m.either(), m.lines(), m.says("]]")),
		form("sum", inner, m.sums(1)),
		form("loop", func(l []string) (string, string, string) { return "", "", l[3] + " " + l[1] }, m.says("for"), m.sums(3), seps, turns))...)
}

func (m *model) branch(word string) rule {
	list := lazy(m.list)
	elif := m.starts(func(at int) rule {
		return seq(func(_ int, l []string) string { return fmt.Sprintf("if%d(%s)", at, l[0]) }, lazy(func() rule { return m.branch("elif") }))
	})
	last := alt(seq(glue, m.says("else"), list, m.says("fi")), m.says("fi"), elif)
	return seq(glue, m.says(word), list, m.says("then"), list, last)
}

// in: a for's words, with a w ahead; nothing, if it has none.
func (m *model) in() rule {
	words := m.many(" ", m.word(anything))
	return opt(seq(func(_ int, l []string) string { return "w" + l[2] }, m.lines(), m.says("in"), words, m.stops))
}

// branches: a branch of a case.
func (m *model) branches() rule {
	pats := func(first func(int, []api.Part) bool) rule {
		more := m.many(" ", seq(glue, m.op("|"), m.word(anything)))
		return seq(func(_ int, l []string) string { return " " + l[0] + l[1] }, m.word(first), more)
	}
	free := pats(func(_ int, l []api.Part) bool { return !bareIs(l, "esac") })
	full := seq(func(_ int, l []string) string { return l[1] }, m.op("("), pats(anything))
	none := seq(func(int, []string) string { return "none0()" }, many(m.sep()))
	return seq(func(_ int, l []string) string { return "{" + l[0] + ": " + l[2] + "}" },
		alt(free, full), m.op(")"), alt(lazy(m.list), none), m.op(";;"), m.lines())
}

// function: a name and ( ), or function and a name.
func (m *model) function() rule {
	return m.starts(func(at int) rule {
		make := func(_ int, l []string) string {
			i := slices.IndexFunc(l, func(x string) bool { return x != "" })
			return fmt.Sprintf("fun:%s%d(%s)", l[i], at, l[len(l)-1])
		}
		named := seq(make, m.bare(func(x string) bool { return octets.Name(x) && !octets.Reserved(x) }), m.op("("), m.op(")"), m.lines(), m.compound())
		if !m.bash {
			return named
		}
		pair := seq(glue, m.op("("), m.op(")"))
		return alt(named, seq(make, m.says("function"), m.bare(octets.Name), opt(pair), m.lines(), m.compound()))
	})
}

func (m *model) local() rule {
	return m.starts(func(at int) rule {
		name := func(s spot) []way {
			s = m.space(s)
			return m.word(func(_ int, l []api.Part) bool {
				return len(l) == 1 && l[0].Kind == 1 && !l[0].Quoted && octets.Name(l[0].Text)
			})(s)
		}
		return seq(func(_ int, l []string) string {
			return fmt.Sprintf("local%d(%s)", at, strings.TrimPrefix(l[1], " "))
		}, m.says("local"), m.many(" ", alt(name, m.assign(false))), m.stops)
	})
}

// sums: (( and so many sums, up to )). What is wrong in them is farther on than that the second ( is no ).
func (m *model) sums(many int) rule {
	return func(s spot) []way {
		s = m.space(s)
		from := s.at
		if !m.bash || !strings.HasPrefix(m.s[from:], "((") {
			return m.fail(from)
		}
		end, e := lex.Closed(m.s, from+2)
		switch {
		case e != api.OK:
			return m.broken(from+1, e, end)
		case end+1 == len(m.s):
			return m.broken(from+1, api.ErrShort, end+1)
		case m.s[end+1] != ')':
			return m.broken(from+1, api.ErrSyntax, end+1)
		}
		at, out := from+2, ""
		for i := range many {
			stop := end
			if n := strings.IndexByte(m.s[at:end], ';'); i+1 < many && n >= 0 {
				stop = at + n
			}
			x, place, e := arith.Parse(m.s[at:stop], true)
			if e != api.OK {
				return m.broken(from+1, e, at+place)
			}
			if i+1 < many && stop == end {
				return m.broken(from+1, api.ErrSyntax, end)
			}
			out += "{" + sumShape(x) + "}"
			at = stop + 1
		}
		s.at = end + 2
		return []way{{s, out}}
	}
}

// either, also, turned, term: conditions, from the loosest on.
func (m *model) either() rule {
	return m.joined("||", m.also)
}

func (m *model) also() rule {
	return m.joined("&&", m.turned)
}

func (m *model) joined(op string, read func() rule) rule {
	return lazy(func() rule {
		return seq(func(_ int, l []string) string {
			out := l[0]
			for _, x := range strings.Split(l[1], "\x05")[1:] {
				out = "(" + op + " " + out + " " + x + ")"
			}
			return out
		}, read(), m.many("\x05", seq(glue, m.lines(), m.op(op), m.lines(), read())))
	})
}

func (m *model) turned() rule {
	return lazy(func() rule {
		return alt(
			seq(func(_ int, l []string) string { return "(! " + l[2] + ")" }, m.says("!"), m.lines(), m.turned()),
			seq(glue, m.op("("), m.lines(), m.either(), m.lines(), m.op(")")),
			m.term())
	})
}

func (m *model) term() rule {
	make := func(_ int, l []string) string { return "(" + glue(0, l) + ")" }
	any := m.word(func(_ int, l []api.Part) bool { return !bareIs(l, "]]") })
	first := m.word(func(_ int, l []api.Part) bool { return !bareIs(l, "]]") && !bareIs(l, "!") })
	of := func(ops string) rule {
		return m.bare(func(x string) bool { return slices.Contains(strings.Fields(ops), x) })
	}
	lead := func(_ int, l []string) string { return "(" + l[2] + " " + l[0] + " " + l[4] + ")" }
	return alt(
		seq(func(_ int, l []string) string { return "(word " + l[0] + ")" }, first),
		seq(make, of("-n -z -e -f -d -s"), m.lines(), any),
		seq(lead, first, m.lines(), of("= == != -eq -ne -lt -le -gt -ge"), m.lines(), any))
}

// slowScript tells all that Script answers.
func slowScript(s string, bash bool) string {
	m := model{s: s, bash: bash, far: -1}
	out, ok := m.all(0)
	if !ok {
		return told(api.Cmd{}, m.place, m.errno)
	}
	if out == "" {
		out = "none0()"
	}
	return fmt.Sprintf("%s; %d; %d", out, len(s), api.OK)
}
