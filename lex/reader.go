package lex

import (
	"strings"

	"cowrie/api"
)

// The ways of reading parts: each ends elsewhere. From inQuotes on all that is read is quoted.
const (
	alone     = iota // a word: up to what stands between words, or an operator
	inBraces         // the word in ${ }: up to }
	inPattern        // what / looks for in ${ }: up to / or }
	inQuotes         // within " ": up to "
	inBoth           // the word in ${ } within " ": up to }
	inLines          // the lines of a heredoc: all of them
)

// fault tells what is wrong with a text, and where: it is what reading panics with. A sum's is one that arith tells.
type fault struct {
	errno api.Errno
	place int
	sum   bool
}

// early: does the chapter name the fault ahead of ErrLong? A sum's it names last, whatever its number.
func (f fault) early() bool {
	return !f.sum && (f.errno == api.ErrSyntax || f.errno == api.ErrShort)
}

// reader reads the text s from the place at on; depth is how many words the one that it reads is within.
type reader struct {
	s     string
	at    int
	bash  bool
	depth int
}

// caught: what is read, or the fault that ended it.
func caught(read func() []api.Part) (l []api.Part, f fault) {
	defer func() {
		if r := recover(); r != nil {
			l, f = nil, r.(fault)
		}
	}()
	return read(), fault{}
}

// parts reads all parts, in that way, up to their end.
func (r *reader) parts(way int) []api.Part {
	var b bag
	for !r.over(way) {
		r.part(way, &b)
	}
	return b.taken()
}

// quotes reads likewise what is quoted: that is an empty text, if there is nothing else.
func (r *reader) quotes(way int) []api.Part {
	l := r.parts(way)
	if len(l) == 0 {
		l = append(l, api.Part{Kind: text, Quoted: true})
	}
	return l
}

// within reads likewise a word that is within the one that is being read.
func (r *reader) within(way int) []api.Part {
	if r.depth == api.MaxNest {
		panic(r.here(api.ErrDepth))
	}
	r.depth++
	l := r.parts(way)
	r.depth--
	return l
}

// over: is what is read in that way at its end? Some may end where the text does.
func (r *reader) over(way int) bool {
	if r.at == len(r.s) {
		if way != alone && way != inLines {
			panic(r.short())
		}
		return true
	}
	c := r.s[r.at]
	switch way {
	case alone:
		return strings.IndexByte(" \t\n;&|<>()", c) >= 0 && !r.opens()
	case inPattern:
		return c == '/' || c == '}'
	case inQuotes:
		return c == '"'
	case inBraces, inBoth:
		return c == '}'
	}
	return false
}

// part reads what stands at the place.
func (r *reader) part(way int, b *bag) {
	switch c := r.s[r.at]; {
	case c == '`', c == '"' && way == inBoth:
		panic(r.here(api.ErrSyntax))
	case c == '\\':
		r.escaped(way, b)
	case c == '$':
		r.dollar(way, b)
	case c == '\'' && way < inQuotes:
		end := r.find(r.at+1, '\'')
		b.put(r.s[r.at+1:end], true)
		r.at = end + 1
	case c == '"' && way < inQuotes:
		r.at++
		b.add(r.quotes(inQuotes)...)
		r.at++
	case way < inQuotes && r.opens():
		b.add(r.list(file, false))
	default:
		b.put(r.s[r.at:r.at+1], way >= inQuotes)
		r.at++
	}
}

// opens: does a list stand here that a command is to have as a file?
func (r *reader) opens() bool {
	return r.bash && strings.HasPrefix(r.s[r.at:], "<(")
}

// escaped reads a backslash, and the octet behind it as far as it takes that with it.
func (r *reader) escaped(way int, b *bag) {
	if r.at+1 == len(r.s) {
		panic(r.short())
	}
	special := "$\"\\`"
	if way == inLines {
		special = "$\\`"
	}
	next := r.s[r.at+1 : r.at+2]
	switch {
	case next == "\n":
		r.at += 2
	case way < inQuotes || strings.Contains(special, next):
		b.put(next, true)
		r.at += 2
	default:
		b.put(`\`, true)
		r.at++
	}
}

// find: the place of the first c from at on.
func (r *reader) find(at int, c byte) int {
	width := strings.IndexByte(r.s[at:], c)
	if width < 0 {
		panic(r.short())
	}
	return at + width
}

// want goes on behind the first of the texts that stands here, and answers it; one must. Those that others begin with come last.
func (r *reader) want(l ...string) string {
	rest := r.s[r.at:]
	if x, ok := first(l, func(x string) bool { return strings.HasPrefix(rest, x) }); ok {
		r.at += len(x)
		return x
	}
	if _, ok := first(l, func(x string) bool { return strings.HasPrefix(x, rest) }); ok {
		panic(r.short())
	}
	panic(r.here(api.ErrSyntax))
}

// here: a fault of what stands at the place.
func (r *reader) here(e api.Errno) fault {
	return fault{errno: e, place: r.at}
}

// short: the fault that the text ends too early.
func (r *reader) short() fault {
	return fault{errno: api.ErrShort, place: len(r.s)}
}
