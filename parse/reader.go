package parse

import (
	"strings"

	"cowrie/api"
	"cowrie/lex"
	"cowrie/octets"
)

// fault tells what is wrong with a script, and where: it is what reading panics with. A nested one is that commands are within too many others.
type fault struct {
	errno  api.Errno
	place  int
	nested bool
}

// reader reads the text s from the place at on. What it reads is within depth commands; inner: in a list of $( ) or <( ), which ends where s does, and whose script goes on behind it. Heredocs wait for the newline that is ahead of their lines.
type reader struct {
	s       string
	at      int
	bash    bool
	depth   int
	inner   bool
	waiting []func()
}

// caught: what is read, or the fault that ended it.
func caught(read func() api.Cmd) (c api.Cmd, f fault) {
	defer func() {
		if r := recover(); r != nil {
			c, f = api.Cmd{}, r.(fault)
		}
	}()
	return read(), fault{}
}

// short: the fault that the text ends too early. A list's end is a ) that may not stand there.
func (r *reader) short() fault {
	if r.inner {
		return fault{errno: api.ErrSyntax, place: len(r.s)}
	}
	return fault{errno: api.ErrShort, place: len(r.s)}
}

// wrong: the fault that what comes next may not stand there.
func (r *reader) wrong() fault {
	if r.over() {
		return r.short()
	}
	return fault{errno: api.ErrSyntax, place: r.at}
}

// hold panics, if there is an error at the place.
func (r *reader) hold(e api.Errno, place int) {
	if e == api.ErrShort && place == len(r.s) {
		panic(r.short())
	}
	if e != api.OK {
		panic(fault{errno: e, place: place})
	}
}

// space passes by what stands between words, and tells where it is then.
func (r *reader) space() int {
	r.at = lex.Space(r.s, r.at)
	return r.at
}

// over: is there nothing more?
func (r *reader) over() bool {
	return r.space() == len(r.s)
}

// operatorAt: the operator at the place; empty, if there is none. What begins with <( is a word.
func (r *reader) operatorAt(at int) string {
	if r.bash && strings.HasPrefix(r.s[at:], "<(") {
		return ""
	}
	return lex.Operator(r.s, at, r.bash)
}

// operator: the operator that comes next; empty, if none does.
func (r *reader) operator() string {
	return r.operatorAt(r.space())
}

// takes goes behind the operator, if it comes next; does it?
func (r *reader) takes(op string) bool {
	ok := r.operator() == op
	if ok {
		r.at += len(op)
	}
	return ok
}

// wants goes behind the operator, which must come next.
func (r *reader) wants(op string) {
	if !r.takes(op) {
		panic(r.wrong())
	}
}

// bare: the word that comes next, if it is nothing but text that is not quoted, and the place behind it; else an empty text. What is wrong with a word is told where it is read.
func (r *reader) bare() (string, int) {
	w, behind, _ := lex.Word(r.s, r.space(), r.bash)
	if len(w.Parts) != 1 || w.Parts[0].Kind != text || w.Parts[0].Quoted {
		return "", r.at
	}
	return w.Parts[0].Text, behind
}

// says goes behind the bare word, if it comes next; does it?
func (r *reader) says(word string) bool {
	next, behind := r.bare()
	if next == word {
		r.at = behind
	}
	return next == word
}

// must goes behind the bare word, which must come next.
func (r *reader) must(word string) {
	if !r.says(word) {
		panic(r.wrong())
	}
}

// name goes behind a bare word that is a name, which must come next.
func (r *reader) name() string {
	next, behind := r.bare()
	if !octets.Name(next) {
		panic(r.wrong())
	}
	r.at = behind
	return next
}

// line goes behind a newline, and what waits for it.
func (r *reader) line() {
	r.at++
	for _, read := range r.waiting {
		read()
	}
	r.waiting = nil
}

// lines goes behind newlines.
func (r *reader) lines() {
	for r.operator() == "\n" {
		r.line()
	}
}

// apart goes behind what stands between commands; is there any?
func (r *reader) apart() bool {
	any := false
	for {
		switch r.operator() {
		case "\n":
			r.line()
		case ";":
			r.at++
		default:
			return any
		}
		any = true
	}
}

// here: the word that begins just here, without its lists; one without parts, if none does.
func (r *reader) here() api.Word {
	w, behind, e := lex.Word(r.s, r.at, r.bash)
	r.hold(e, behind)
	r.at = behind
	return w
}

// plain: the word that comes next, without its lists; one must.
func (r *reader) plain() api.Word {
	r.space()
	w := r.here()
	if len(w.Parts) == 0 {
		panic(r.wrong())
	}
	return w
}

// word: the word that comes next; one must.
func (r *reader) word() api.Word {
	w := r.plain()
	r.lists(w.Parts)
	return w
}

// words: all words that come next.
func (r *reader) words() []api.Word {
	var l []api.Word
	for r.operator() == "" && !r.over() {
		l = append(l, r.word())
	}
	return l
}

// lists reads the lists of parts in their places, which makes commands of their texts.
func (r *reader) lists(l []api.Part) {
	every(l, func(p *api.Part) bool {
		if p.Kind == list || p.Kind == file {
			in := reader{s: r.s[:p.At+len(p.Text)], at: p.At, bash: r.bash, depth: r.depth, inner: true}
			p.Text = ""
			if c := in.script(); c.Kind != none {
				p.List = []api.Cmd{c}
			}
		}
		r.lists(p.Word)
		r.lists(p.More)
		return true
	})
}
