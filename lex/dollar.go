package lex

import (
	"slices"
	"strings"

	"cowrie/ansi"
	"cowrie/api"
	"cowrie/arith"
	"cowrie/octets"
)

// dollar reads what a $ begins, or the $ itself.
func (r *reader) dollar(way int, b *bag) {
	rest, quoted := r.s[r.at+1:], way >= inQuotes
	switch {
	case strings.HasPrefix(rest, "(("):
		b.add(r.sum(quoted))
	case strings.HasPrefix(rest, "("):
		b.add(r.list(list, quoted))
	case strings.HasPrefix(rest, "{"):
		b.add(r.braces(way))
	case r.bash && !quoted && strings.HasPrefix(rest, "'"):
		b.add(r.ansi())
	case named(rest, 1) > 0:
		r.at++
		b.add(api.Part{Kind: parameter, Name: r.name(1), Quoted: quoted})
	default:
		b.put("$", true)
		r.at++
	}
}

// list reads $( or <( and what stands up to its ).
func (r *reader) list(kind int, quoted bool) api.Part {
	from := r.at + 2
	end := r.closed(from)
	r.at = end + 1
	return api.Part{Kind: kind, Text: strings.Clone(r.s[from:end]), Quoted: quoted, At: from}
}

// sum reads $(( and a sum up to )).
func (r *reader) sum(quoted bool) api.Part {
	from := r.at + 3
	end := r.closed(from)
	r.at = end + 1
	r.want(")")
	return api.Part{Kind: sum, Quoted: quoted, Sums: []api.Sum{r.parsed(from, end)}}
}

// ansi reads $' and what stands up to its '.
func (r *reader) ansi() api.Part {
	from := r.at + 2
	end, e := ansi.Scan(r.s, from)
	if e != api.OK {
		panic(fault{errno: e, place: end})
	}
	s, place, e := ansi.Decode(r.s[from:end])
	if e != api.OK {
		panic(fault{errno: e, place: from + place})
	}
	r.at = end + 1
	return api.Part{Kind: text, Text: s, Op: strings.Clone("ansi"), Quoted: true}
}

// braces reads ${ and what stands up to its }.
func (r *reader) braces(way int) api.Part {
	r.at += 2
	p := api.Part{Kind: parameter, Quoted: way >= inQuotes}
	if r.counted() {
		r.at++
		p.Name = r.name(len(r.s))
		p.Op = r.length(p.Name)
		return p
	}
	p.Name = r.name(len(r.s))
	r.change(&p, way)
	return p
}

// counted: does # stand here ahead of a parameter whose length is asked for? Else it is the parameter itself, with an Op or none.
func (r *reader) counted() bool {
	rest, ok := strings.CutPrefix(r.s[r.at:], "#")
	width := named(rest, len(rest))
	if !ok || width == 0 {
		return false
	}
	return strings.IndexByte("#?", rest[0]) < 0 || strings.HasPrefix(rest[width:], "}")
}

// length reads what stands behind a parameter whose length is asked for, and tells its Op.
func (r *reader) length(name string) string {
	ends := []string{"}"}
	if r.bash && octets.Name(name) {
		ends = append(ends, "[@]")
	}
	if r.want(ends...) == "}" {
		return strings.Clone("len")
	}
	r.want("}")
	return strings.Clone("len[@]")
}

// change reads the Op that stands behind a parameter, if there is one, and what belongs to it.
func (r *reader) change(p *api.Part, way int) {
	op := r.want(ops(r.bash)...)
	if op == "}" {
		return
	}
	inner := inBraces
	if way >= inQuotes {
		inner = inBoth
	}
	p.Op = strings.Clone(op)
	switch op {
	case "^", "^^", ",", ",,", "[@]", "[*]":
	case "[":
		end := r.find(r.at, ']')
		p.Op, p.Sums = strings.Clone("[]"), []api.Sum{r.parsed(r.at, end)}
		r.at = end + 1
	case ":":
		p.Sums = r.span()
	case "/", "//":
		p.Word = r.within(inPattern)
		if r.s[r.at] == '/' {
			r.at++
			p.More = r.within(inner)
		}
	case "#", "##", "%", "%%":
		p.Word = r.within(inBraces)
	default:
		p.Word = r.within(inner)
	}
	r.want("}")
}

// ops: what may stand behind a parameter in ${ }; each stands ahead of those that it begins with.
func ops(bash bool) []string {
	l := []string{"}", ":-", ":=", ":?", ":+", "##", "%%", "-", "=", "?", "+", "#", "%"}
	if bash {
		l = slices.Concat(l, []string{":", "//", "/", "^^", "^", ",,", ",", "[@]", "[*]", "["})
	}
	return l
}

// name reads a parameter's name, of digits no more than most.
func (r *reader) name(most int) string {
	rest := r.s[r.at:]
	name := rest[:named(rest, most)]
	switch {
	case rest == "":
		panic(r.short())
	case name == "":
		panic(r.here(api.ErrSyntax))
	case len(name) > api.MaxName && !octets.Digits(name):
		panic(r.here(api.ErrLong))
	}
	r.at += len(name)
	return strings.Clone(name)
}

// named: how many octets at the beginning of s name a parameter, or would if names could be as long; of digits no more than most.
func named(s string, most int) int {
	n := 0
	switch {
	case s == "":
	case strings.IndexByte("@*#?", s[0]) >= 0:
		return 1
	case digit(s[0]):
		for n < min(most, len(s)) && digit(s[n]) {
			n++
		}
	default:
		for n < len(s) && (digit(s[n]) || octets.Name(s[n:n+1])) {
			n++
		}
	}
	return n
}

func digit(c byte) bool {
	return c >= '0' && c <= '9'
}

// span reads one sum up to }, or two with : between.
func (r *reader) span() []api.Sum {
	end := r.find(r.at, '}')
	middle := r.at + parted(r.s[r.at:end])
	l := []api.Sum{r.parsed(r.at, middle)}
	if middle < end {
		l = append(l, r.parsed(middle+1, end))
	}
	r.at = end
	return l
}

// parted: the place of the : between two sums, which is the first that no ? waits for; the length, if there is none.
func parted(s string) int {
	asked := 0
	for i := range len(s) {
		switch {
		case s[i] == '?':
			asked++
		case s[i] == ':' && asked == 0:
			return i
		case s[i] == ':':
			asked--
		}
	}
	return len(s)
}

// parsed: the sum that stands from one place to another.
func (r *reader) parsed(from, end int) api.Sum {
	x, place, e := arith.Parse(r.s[from:end], r.bash)
	if e != api.OK {
		panic(fault{errno: e, place: from + place, sum: true})
	}
	return x
}

// closed: the place of the ) that ends what begins at from.
func (r *reader) closed(from int) int {
	end, e := Closed(r.s, from)
	if e != api.OK {
		panic(fault{errno: e, place: end})
	}
	return end
}
