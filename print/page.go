package print

import (
	"strings"

	"cowrie/api"
	"cowrie/number"
	"cowrie/octets"
)

// page is a script's text on its way. The lines of heredocs wait for the newline that is ahead of them. It is wrong, if something was met that no text tells.
type page struct {
	strings.Builder
	waiting []string
	wrong   bool
}

// put writes texts.
func (p *page) put(l ...string) {
	for _, s := range l {
		p.WriteString(s)
	}
}

// row writes texts with a blank ahead of each.
func (p *page) row(l []string) {
	for _, s := range l {
		p.put(" ", s)
	}
}

// line ends a line, and writes the lines that wait for that.
func (p *page) line() {
	p.put("\n")
	p.put(p.waiting...)
	p.waiting = nil
}

// hold notes what must be so; is it?
func (p *page) hold(ok bool) bool {
	p.wrong = p.wrong || !ok
	return ok
}

// await leaves lines to the next newline, and tells the word that stands for them.
func (p *page) await(body string, plain bool) string {
	end := unmet(octets.Lines(body))
	p.waiting = append(p.waiting, body+end+"\n")
	if plain {
		return quoted(end, false)
	}
	return end
}

// unmet: a text that is none of the lines.
func unmet(lines []string) string {
	met := map[string]struct{}{}
	for _, line := range lines {
		met[line] = struct{}{}
	}
	end := "EOF"
	for n := 1; ; n++ {
		if _, ok := met[end]; !ok {
			return end
		}
		end = "EOF" + number.Print(n)
	}
}

// nothing: is it no command at all?
func nothing(c api.Cmd) bool {
	return c.Kind == none && shape{}.fits(c)
}

// writer writes commands of a dialect as a script, or (inner) as a list within $( ) or <( ). What it writes is within level commands, so many words of ${ }, and so many " " of the lists around.
type writer struct {
	page
	bash   bool
	inner  bool
	level  int
	braces int
	quotes int
}

// lines writes a list, each command on a line of its own; there may be none.
func (w *writer) lines(c api.Cmd) {
	if c.Kind == none {
		w.hold(nothing(c))
		return
	}
	w.list(c)
}

// list writes a list likewise; there must be a command.
func (w *writer) list(c api.Cmd) {
	w.command(c, listed)
	w.line()
}
