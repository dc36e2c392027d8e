package utils

import (
	"strings"

	"cowrie/api"
	"cowrie/calc"
	"cowrie/number"
	"cowrie/texts"
)

// most is how many numbers seq tells at most.
const most = 4096

// counts: how many newlines, words and octets the text has, or just what the letter asks for.
func counts(s string, letter string) string {
	lines, words, octets := texts.Count(s)
	switch letter {
	case "l":
		return number.Print(lines)
	case "w":
		return number.Print(words)
	case "c":
		return number.Print(octets)
	}
	return number.Print(lines) + " " + number.Print(words) + " " + number.Print(octets)
}

// row: what seq tells.
func (j *job) row() string {
	from := 1
	if len(j.left) > 1 {
		from = j.number()
	}
	to := j.number()
	j.end()
	if from > to {
		return ""
	}
	steps := uint64(to) - uint64(from) // as numbers with a sign they may be too far apart
	must(steps < most)
	var out strings.Builder
	for n := range int(steps) + 1 {
		out.WriteString(number.Print(from+n) + "\n")
	}
	return out.String()
}

// part: what basename or dirname tells.
func (j *job) part(name string) string {
	dir, base := parted(j.next())
	j.end()
	if name == "dirname" {
		return dir
	}
	return base
}

// parted: the path's directory, and its name there.
func parted(path string) (dir, base string) {
	bare := strings.TrimRight(path, "/")
	at := strings.LastIndexByte(bare, '/')
	switch {
	case bare == "" && path != "":
		return "/", "/"
	case at < 0:
		return ".", bare
	}
	dir = strings.TrimRight(bare[:at], "/")
	if dir == "" {
		dir = "/"
	}
	return dir, bare[at+1:]
}

// compute does what expr does.
func (j *job) compute() {
	a := j.next()
	op := j.next()
	b := j.next()
	j.end()
	n := figure(a, op, b)
	j.Out = number.Print(n) + "\n"
	if n == 0 {
		j.Status = failed
	}
}

// figure: what an operator makes of two words.
func figure(a, op, b string) int {
	m, e := number.Parse(a)
	n, f := number.Parse(b)
	numbers := e == api.OK && f == api.OK
	switch op {
	case "+", "-", "*", "/", "%":
		must(numbers)
	case "=", "!=", "<", "<=", ">", ">=":
		if !numbers { // as the texts are to each other, so is this number to 0
			m, n = strings.Compare(a, b), 0
		}
	default:
		must(false)
	}
	return worked(op, m, n)
}

// worked: two numbers, worked out. They come in as variables, as an expression has no numbers below 0.
func worked(op string, m, n int) int {
	if op == "=" {
		op = "=="
	}
	x := api.Sum{Op: op, Kids: []api.Sum{{Name: "m"}, {Name: "n"}}}
	r, _, e := calc.Eval(x, []api.Var{{Name: "m", Text: number.Print(m)}, {Name: "n", Text: number.Print(n)}})
	must(e == api.OK) // else it is divided by 0
	return r
}
