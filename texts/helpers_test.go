package texts

import (
	"math/big"
	"math/rand"
	"regexp"
	"slices"
	"strings"

	"cowrie/printf"
)

// list makes lists of texts.
func list(l ...string) []string { return l }

// octet is the text of one octet; string(rune) would write two for those above 127.
func octet(c int) string { return string([]byte{byte(c)}) }

// all is every octet, in order.
func all() string {
	var b strings.Builder
	for c := range 256 {
		b.WriteByte(byte(c))
	}
	return b.String()
}

// standing: the lines as they stand, with their newlines.
func standing(s string) []string {
	l := strings.SplitAfter(s, "\n")
	return slices.DeleteFunc(l, func(line string) bool { return line == "" })
}

// bare: the lines without their newlines.
func bare(s string) []string {
	l := standing(s)
	for i := range l {
		l[i] = strings.TrimSuffix(l[i], "\n")
	}
	return l
}

// ended: the lines, each with a newline.
func ended(l []string) string {
	s := ""
	for _, line := range l {
		s += line + "\n"
	}
	return s
}

func slowHead(s string, n int) string {
	l := standing(s)
	return strings.Join(l[:max(0, min(n, len(l)))], "")
}

func slowTail(s string, n int) string {
	l := standing(s)
	return strings.Join(l[len(l)-max(0, min(n, len(l))):], "")
}

var word = regexp.MustCompile(`[^ \t\n\r]+`)

func slowCount(s string) [3]int {
	return [3]int{len(regexp.MustCompile(`\n`).FindAllString(s, -1)), len(word.FindAllString(s, -1)), len(s)}
}

var leading = regexp.MustCompile(`^[ \t]*(-?[0-9]+)`)

// slowNumber: the number that a line begins with, of any size.
func slowNumber(line string) *big.Int {
	n := new(big.Int)
	if m := leading.FindStringSubmatch(line); m != nil {
		n.SetString(m[1], 10)
	}
	return n
}

// slowSort puts one line behind the other at its place.
func slowSort(s string, reverse, unique, numbers bool) string {
	var l []string
	for _, line := range bare(s) {
		if unique && slices.Contains(l, line) {
			continue
		}
		at := 0
		for at < len(l) && ahead(l[at], line, numbers) {
			at++
		}
		l = slices.Insert(l, at, line)
	}
	if reverse {
		slices.Reverse(l)
	}
	return ended(l)
}

// ahead: does a go ahead of b?
func ahead(a, b string, numbers bool) bool {
	if numbers {
		if c := slowNumber(a).Cmp(slowNumber(b)); c != 0 {
			return c < 0
		}
	}
	return a < b
}

// runes has a rune for each octet, so that patterns take one at a time.
func runes(s string) string {
	l := make([]rune, len(s))
	for i := range len(s) {
		l[i] = rune(s[i])
	}
	return string(l)
}

var item = regexp.MustCompile(`(?s)^(?:(.)-(.)|.)`)

// slowSet: a set's octets by the document's words.
func slowSet(s string) (string, bool) {
	out := ""
	for rest := runes(printf.Escape(s)); rest != ""; {
		m := item.FindStringSubmatch(rest)
		first := []rune(m[0])[0]
		last := first
		if m[2] != "" {
			last = []rune(m[2])[0]
		}
		if first > last {
			return "", false
		}
		for c := first; c <= last; c++ {
			out += octet(int(c))
		}
		rest = rest[len(m[0]):]
	}
	return out, true
}

func slowTranslate(s, from, to string) (string, bool) {
	old, ok := slowSet(from)
	put, also := slowSet(to)
	if !ok || !also || len(put) == 0 && len(old) > 0 {
		return "", false
	}
	out := ""
	for i := range len(s) {
		at := strings.Index(old, s[i:i+1])
		switch {
		case at < 0:
			out += s[i : i+1]
		case at < len(put):
			out += put[at : at+1]
		default:
			out += put[len(put)-1:]
		}
	}
	return out, true
}

func slowDelete(s, set string) (string, bool) {
	old, ok := slowSet(set)
	if !ok {
		return "", false
	}
	out := s
	for i := range len(old) {
		out = strings.ReplaceAll(out, old[i:i+1], "")
	}
	return out, true
}

func slowUniq(s string) string {
	var l []string
	for i, line := range bare(s) {
		if i == 0 || line != bare(s)[i-1] {
			l = append(l, line)
		}
	}
	return ended(l)
}

func slowCut(s string, mark byte, field int) string {
	l := bare(s)
	for i, line := range l {
		parts := strings.Split(line, octet(int(mark)))
		switch {
		case len(parts) == 1:
		case field < 1 || field > len(parts):
			l[i] = ""
		default:
			l[i] = parts[field-1]
		}
	}
	return ended(l)
}

func slowRev(s string) string {
	l := bare(s)
	for i, line := range l {
		l[i] = ""
		for j := range len(line) {
			l[i] = line[j:j+1] + l[i]
		}
	}
	return ended(l)
}

// spans: every text of those octets that is at most so long.
func spans(octets string, most int) []string {
	all := []string{""}
	last := all
	for range most {
		var next []string
		for _, s := range last {
			for i := range len(octets) {
				next = append(next, s+octets[i:i+1])
			}
		}
		all = append(all, next...)
		last = next
	}
	return all
}

// some: texts of that list by chance, one behind the other.
func some(r *rand.Rand, most int, l ...string) string {
	var b strings.Builder
	for range r.Intn(most + 1) {
		b.WriteString(l[r.Intn(len(l))])
	}
	return b.String()
}

// anyLines: lines by chance, many of which meet again.
func anyLines(r *rand.Rand) string {
	return some(r, 20, "\n", "\n", "\n", "a", "b", "a b", " ", "\t", "\r", "\v", ":", ",", "-", "0", "00", "7", "10", "-3", "99999999999999999999", "é", "\xff", "\x00", "x1")
}

// anySet: a set by chance, seldom none.
func anySet(r *rand.Rand) string {
	return some(r, 5, "a", "b", "c", "a-c", "A-C", "0-9", "-", `\n`, `\\`, `\055`, `\0`, `\`, "\xf0-\xff", "\x00", "é", "z-a", "x-x")
}
