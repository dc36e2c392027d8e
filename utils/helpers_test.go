package utils

import (
	"fmt"
	"math/big"
	"math/rand"
	"regexp"
	"slices"
	"strconv"
	"strings"

	"cowrie/api"
	"cowrie/printf"
	"cowrie/test"
	"cowrie/texts"
	"cowrie/tree"
)

// list makes arguments of texts.
func list(l ...string) []string { return l }

// octet is the text of one octet; string(rune) would write two for those above 127.
func octet(c int) string { return string([]byte{byte(c)}) }

func dir(path string) api.Node        { return api.Node{Path: path, Dir: true} }
func leaf(path, data string) api.Node { return api.Node{Path: path, Data: data} }

// small is a tree of files, empty and not, and directories, empty and not; a file is named as an option.
func small() []api.Node {
	return []api.Node{leaf("/-n", "dash\n"), dir("/d"), dir("/d/e"), leaf("/d/f", "x:y z\nlast"), leaf("/f", "b\na\nb\n"), leaf("/v", "")}
}

// full is a tree of so many nodes: a directory, and files with nothing in them.
func full(nodes int) []api.Node {
	l := []api.Node{dir("/d")}
	for i := range nodes - 1 {
		l = append(l, leaf(fmt.Sprintf("/f%03d", i), ""))
	}
	return l
}

// shape tells what is done so that no two are told alike; nil and empty lists are one.
func shape(d Done) string {
	var l []string
	for _, n := range d.Tree {
		l = append(l, fmt.Sprintf("%q %t %q", n.Path, n.Dir, n.Data))
	}
	return fmt.Sprintf("out %q err %q status %d read %t tree %s", d.Out, d.Err, d.Status, d.Read, strings.Join(l, "; "))
}

// all: the utilities' names, in order.
func all() []string {
	return list(":", "true", "false", "echo", "printf", "test", "[", "cat", "head", "tail", "wc", "sort", "tr", "uniq", "cut", "rev", "rm", "mkdir", "touch", "seq", "basename", "dirname", "expr")
}

// What arguments are told as for patterns: each has a mark behind it, and each octet is a rune.
const (
	mark  = "\u2020"
	word  = `([^\x{2020}]*)\x{2020}`
	plain = `(?:[^-\x{2020}][^\x{2020}]*|-?)\x{2020}`
	rest  = `((?:` + plain + `(?:[^\x{2020}]*\x{2020})*)?)$`
)

func runes(s string) string {
	l := make([]rune, len(s))
	for i := range len(s) {
		l[i] = rune(s[i])
	}
	return string(l)
}

func bytesOf(s string) string {
	var l []byte
	for _, r := range s {
		l = append(l, byte(r))
	}
	return string(l)
}

// slow is a utility by the document's words: its arguments are read by patterns.
type slow struct {
	told string
	in   string
	done Done
	full bool
}

// read: every form that was asked for, ready to be held against arguments.
var read = map[string]*regexp.Regexp{}

// fits: have the arguments that form? Then its groups.
func (s *slow) fits(form string) ([]string, bool) {
	if read[form] == nil {
		read[form] = regexp.MustCompile("^(?s:" + form + ")")
	}
	m := read[form].FindStringSubmatch(s.told)
	for i := range m {
		m[i] = bytesOf(strings.ReplaceAll(m[i], mark, "\u0100")) // a mark's octet is 0 from here on
	}
	return m, m != nil
}

// split: the words of a group.
func split(group string) []string {
	l := strings.SplitAfter(group, "\x00")
	for i := range l {
		l[i] = strings.TrimSuffix(l[i], "\x00")
	}
	return l[:len(l)-1]
}

// texts: those of the words of a group.
func (s *slow) texts(group string) string {
	l := split(group)
	out := ""
	for i, w := range l {
		data, e := tree.Get(s.done.Tree, w)
		switch {
		case w == "-" && !slices.Contains(l[:i], "-"):
			out += s.in
		case w == "-":
		case e != api.OK:
			s.done.Status = 1
		default:
			out += data
		}
	}
	s.done.Read = len(l) == 0 || slices.Contains(l, "-")
	if len(l) == 0 {
		out = s.in
	}
	return out
}

// forms: what arguments a utility takes.
func forms(name string) string {
	form, ok := map[string]string{
		":": "", "true": "", "false": "", "echo": "", "test": "",
		"printf": word,
		"[":      `(.*)(?:^|\x{2020})\]\x{2020}$`,
		"cat":    rest, "uniq": rest, "rev": rest,
		"head":     `(?:-n\x{2020}([0-9]{1,6})\x{2020})?` + rest,
		"tail":     `(?:-n\x{2020}([0-9]{1,6})\x{2020})?` + rest,
		"wc":       `(?:-([lwc])\x{2020})?` + rest,
		"sort":     `((?:-[run]+\x{2020})*)` + rest,
		"cut":      `-d\x{2020}([^\x{2020}])\x{2020}-f\x{2020}(0{0,5}[1-9][0-9]{0,5})\x{2020}` + rest,
		"tr":       word + word + "$",
		"rm":       `((?:-[fr]+\x{2020})*)` + rest,
		"mkdir":    `((?:-p+\x{2020})*)` + rest,
		"touch":    rest,
		"seq":      `(?:` + word + `)?` + word + "$",
		"basename": word + "$", "dirname": word + "$",
		"expr": word + `(=|!=|<=?|>=?|[-+*/%])\x{2020}` + word + "$",
	}[name]
	if !ok {
		panic(name)
	}
	return form
}

// slowRun: Run by the document's words.
func slowRun(name string, args []string, in string, t []api.Node) (Done, api.Errno) {
	if !slices.Contains(all(), name) {
		return Done{}, api.ErrName
	}
	if e := tree.Check(t); e != api.OK {
		return Done{}, e
	}
	s := &slow{in: in, done: Done{Tree: t}}
	for _, a := range args {
		s.told += runes(a) + mark
	}
	m, ok := s.fits(forms(name))
	ok = ok && s.do(name, m, args)
	switch {
	case s.full || ok && len(s.done.Out) > 65536:
		return Done{Status: 1, Tree: t}, api.ErrFull
	case !ok:
		return Done{Status: 2, Tree: t}, api.OK
	}
	return s.done, api.OK
}

// do does what the utility does; are its words well?
func (s *slow) do(name string, m, args []string) bool {
	switch name {
	case "cat", "head", "tail", "wc", "sort", "uniq", "rev", "cut", "tr":
		return s.filter(name, m)
	case "rm", "mkdir", "touch":
		return s.change(name, m)
	}
	return s.tell(name, m, args)
}

// tell is one of those that tell something of their words alone.
func (s *slow) tell(name string, m, args []string) bool {
	switch name {
	case ":", "true":
	case "false":
		s.done.Status = 1
	case "echo":
		s.done.Out = printf.Echo(args)
	case "printf":
		s.done.Out, s.done.Status = printf.Format(args[0], args[1:])
	case "test":
		s.done.Status = test.Eval(args, s.done.Tree)
	case "[":
		s.done.Status = test.Eval(args[:len(args)-1], s.done.Tree)
	case "basename":
		s.done.Out = slowPart(m[1], 2) + "\n"
	case "dirname":
		s.done.Out = slowPart(m[1], 1) + "\n"
	case "seq":
		return s.seq(m, len(args))
	case "expr":
		return s.expr(m[1], m[2], m[3])
	default:
		panic(name)
	}
	return true
}

var path = regexp.MustCompile(`(?s)^(?:(.*?)(/+))?([^/]+)/*$`)

// slowPart: part 1 of a path is where it lies, part 2 its name.
func slowPart(s string, part int) string {
	m := path.FindStringSubmatch(s)
	switch {
	case m == nil && s == "":
		return list("", ".", "")[part]
	case m == nil:
		return "/"
	case part == 2:
		return m[3]
	case m[2] == "":
		return "."
	case m[1] == "":
		return "/"
	}
	return m[1]
}

var decimal = regexp.MustCompile(`^[ \t]*([-+]?[0-9]+)[ \t]*$`)

// wrapped: the number of 64 bits with a sign that n is modulo 2^64.
func wrapped(n *big.Int) *big.Int {
	half := new(big.Int).Lsh(big.NewInt(1), 63)
	m := new(big.Int).Add(n, half)
	m.Mod(m, new(big.Int).Lsh(big.NewInt(1), 64))
	return m.Sub(m, half)
}

// slowNumber: a text's number; is it one?
func slowNumber(s string) (*big.Int, bool) {
	m := decimal.FindStringSubmatch(s)
	if m == nil {
		return nil, false
	}
	n, _ := new(big.Int).SetString(m[1], 10)
	return wrapped(n), true
}

func (s *slow) seq(m []string, count int) bool {
	from := big.NewInt(1)
	to, ok := slowNumber(m[2])
	if count == 2 {
		var also bool
		from, also = slowNumber(m[1])
		ok = ok && also
	}
	if !ok || new(big.Int).Sub(to, from).Cmp(big.NewInt(4096)) >= 0 {
		return false
	}
	for n := new(big.Int).Set(from); n.Cmp(to) <= 0; n.Add(n, big.NewInt(1)) {
		s.done.Out += n.String() + "\n"
	}
	return true
}

func (s *slow) expr(a, op, b string) bool {
	m, ok := slowNumber(a)
	n, also := slowNumber(b)
	ok = ok && also
	result := new(big.Int)
	if strings.Contains("+-*/%", op) {
		if !ok || strings.Contains("/%", op) && n.Sign() == 0 {
			return false
		}
		do := map[string]func(x, y *big.Int) *big.Int{"+": result.Add, "-": result.Sub, "*": result.Mul, "/": result.Quo, "%": result.Rem}[op]
		result = wrapped(do(m, n))
	} else {
		c := strings.Compare(a, b)
		if ok {
			c = m.Cmp(n)
		}
		if slices.Contains(map[string][]int{"=": {0}, "!=": {-1, 1}, "<": {-1}, "<=": {-1, 0}, ">": {1}, ">=": {0, 1}}[op], c) {
			result.SetInt64(1)
		}
	}
	s.done.Out = result.String() + "\n"
	s.done.Status = 1 - result.CmpAbs(new(big.Int))
	return true
}

// filter is one of those that tell something of texts.
func (s *slow) filter(name string, m []string) bool {
	lines := 10
	if (name == "head" || name == "tail") && m[1] != "" {
		lines, _ = strconv.Atoi(m[1])
	}
	has := func(letter string) bool { return strings.Contains(m[1], letter) }
	ok := true
	switch name {
	case "cat":
		s.done.Out = s.texts(m[1])
	case "head":
		s.done.Out = texts.Head(s.texts(m[2]), lines)
	case "tail":
		s.done.Out = texts.Tail(s.texts(m[2]), lines)
	case "wc":
		lines, words, octets := texts.Count(s.texts(m[2]))
		s.done.Out = map[string]string{"": fmt.Sprintln(lines, words, octets), "l": fmt.Sprintln(lines), "w": fmt.Sprintln(words), "c": fmt.Sprintln(octets)}[m[1]]
	case "sort":
		s.done.Out = texts.Sort(s.texts(m[2]), has("r"), has("u"), has("n"))
	case "uniq":
		s.done.Out = texts.Uniq(s.texts(m[1]))
	case "rev":
		s.done.Out = texts.Rev(s.texts(m[1]))
	case "cut":
		field, _ := strconv.Atoi(m[2])
		s.done.Out = texts.Cut(s.texts(m[3]), m[1][0], field)
		ok = len(m[2]) <= 6
	case "tr":
		s.done.Read = true
		s.done.Out, ok = texts.Translate(s.in, m[1], m[2])
		if m[1] == "-d" {
			s.done.Out, ok = texts.Delete(s.in, m[2])
		}
	default:
		panic(name)
	}
	return ok
}

// change is one of those that change the tree.
func (s *slow) change(name string, m []string) bool {
	group := m[1]
	if name != "touch" {
		group = m[2]
	}
	for _, w := range split(group) {
		switch {
		case name == "rm":
			t, e := tree.Remove(s.done.Tree, w, strings.Contains(m[1], "r"))
			if e != api.ErrNone || !strings.Contains(m[1], "f") {
				s.step(t, e)
			}
		case name == "touch" && tree.Kind(s.done.Tree, w) == 0:
			s.step(tree.Put(s.done.Tree, w, ""))
		case name == "mkdir" && m[1] == "":
			s.step(tree.Mkdir(s.done.Tree, w))
		case name == "mkdir":
			s.parents(w)
		}
	}
	return name == "rm" || group != ""
}

// parents: mkdir at all beginnings of a path, also of one that is a file.
func (s *slow) parents(w string) {
	p, e := tree.Path(w)
	if e != api.OK {
		s.done.Status = 1
		return
	}
	l := strings.Split(p, "/")
	for i := range l[1:] {
		begin := strings.Join(l[:i+2], "/")
		t, e := tree.Mkdir(s.done.Tree, begin)
		if e != api.ErrExist || tree.Kind(s.done.Tree, begin) != 2 {
			s.step(t, e)
		}
	}
}

// step takes a changed tree, or the error.
func (s *slow) step(t []api.Node, e api.Errno) {
	s.full = s.full || e == api.ErrFull
	if e == api.OK {
		s.done.Tree = t
	} else {
		s.done.Status = 1
	}
}

// rows hands every row of so many of those texts to do.
func rows(texts []string, count int, do func([]string)) {
	row := make([]string, count)
	var fill func(int)
	fill = func(at int) {
		if at == count {
			do(row)
			return
		}
		for _, s := range texts {
			row[at] = s
			fill(at + 1)
		}
	}
	fill(0)
}

// some: texts of that list by chance, one behind the other.
func some(r *rand.Rand, most int, l ...string) string {
	var b strings.Builder
	for range r.Intn(most + 1) {
		b.WriteString(l[r.Intn(len(l))])
	}
	return b.String()
}
