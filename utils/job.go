package utils

import (
	"strings"

	"cowrie/api"
	"cowrie/printf"
	"cowrie/test"
	"cowrie/texts"
	"cowrie/tree"
)

// job is a utility on its way: what it has done so far, the words that it has not taken yet, and the input.
type job struct {
	Done
	words
	in string
}

// run does what the utility of that name does. : and true do nothing.
func (j *job) run(name string) {
	switch name {
	case "false":
		j.Status = failed
	case "echo":
		j.Out = printf.Echo(j.left)
	case "printf":
		format := j.next()
		j.Out, j.Status = printf.Format(format, j.left)
	case "[":
		last := len(j.left) - 1
		must(last >= 0 && j.left[last] == "]")
		j.Status = test.Eval(j.left[:last], j.Tree)
	case "test":
		j.Status = test.Eval(j.left, j.Tree)
	case "cat", "head", "tail", "wc", "sort", "uniq", "cut", "rev":
		made := j.filter(name)
		j.letters("") // whatever option the utility did not take is none of its own
		j.Out = made(j.texts())
	case "tr":
		j.Out = j.translated()
	case "rm", "mkdir", "touch":
		change := j.changer(name)
		j.letters("")
		j.each(change)
	case "seq":
		j.Out = j.row()
	case "basename", "dirname":
		j.Out = j.part(name) + "\n"
	case "expr":
		j.compute()
	}
}

// filter takes a utility's options, and answers what it makes of texts.
func (j *job) filter(name string) func(string) string {
	switch name {
	case "head":
		n := j.lines()
		return func(s string) string { return texts.Head(s, n) }
	case "tail":
		n := j.lines()
		return func(s string) string { return texts.Tail(s, n) }
	case "wc":
		letter := j.letters("lwc")
		must(len(letter) <= 1)
		return func(s string) string { return counts(s, letter) + "\n" }
	case "sort":
		letters := j.letters("run")
		asked := func(letter string) bool { return strings.Contains(letters, letter) }
		return func(s string) string { return texts.Sort(s, asked("r"), asked("u"), asked("n")) }
	case "uniq":
		return texts.Uniq
	case "cut":
		mark, field := j.place()
		return func(s string) string { return texts.Cut(s, mark, field) }
	case "rev":
		return texts.Rev
	}
	return func(s string) string { return s }
}

// lines takes how many lines head and tail are to tell.
func (j *job) lines() int {
	if j.taken("-n") {
		return j.count()
	}
	return 10
}

// place takes which part of lines cut is to tell, and what it is parted by.
func (j *job) place() (byte, int) {
	must(j.taken("-d"))
	mark := j.next()
	must(len(mark) == 1 && j.taken("-f"))
	field := j.count()
	must(field > 0)
	return mark[0], field
}

// texts: what the words that are left have, one behind the other: files, and the input.
func (j *job) texts() string {
	sources := j.left
	if len(sources) == 0 {
		sources = []string{"-"}
	}
	var all strings.Builder
	for _, source := range sources {
		all.WriteString(j.text(source))
	}
	return all.String()
}

// text: what a file has, or the input, which can be read once.
func (j *job) text(source string) string {
	if source != "-" {
		data, e := tree.Get(j.Tree, source)
		if e != api.OK {
			j.Status = failed
		}
		return data
	}
	if j.Read {
		return ""
	}
	j.Read = true
	return j.in
}

// translated: what tr makes of the input.
func (j *job) translated() string {
	first := j.next()
	second := j.next()
	j.end()
	change := func() (string, bool) { return texts.Translate(j.in, first, second) }
	if first == "-d" {
		change = func() (string, bool) { return texts.Delete(j.in, second) }
	}
	out, ok := change()
	must(ok)
	j.Read = true
	return out
}
