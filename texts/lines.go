package texts

import (
	"cmp"
	"strings"
)

// number is one that a line begins with. It may be of any size, so it stays digits.
type number struct {
	width  int    // how many digits, below 0 if the number is
	digits string // without 0 ahead, so 0 has none
}

// numberOf: the number that the line begins with; 0, if it begins with none.
func numberOf(line string) number {
	rest, minus := strings.CutPrefix(strings.TrimLeft(line, " \t"), "-")
	size := strings.TrimLeft(rest, "0")
	end := 0
	for end < len(size) && size[end] >= '0' && size[end] <= '9' {
		end++
	}
	if minus {
		return number{-end, size[:end]}
	}
	return number{end, size[:end]}
}

func (n number) compare(m number) int {
	if n.width < 0 { // of two below 0 the greater size is the lesser number
		n.digits, m.digits = m.digits, n.digits
	}
	if c := cmp.Compare(n.width, m.width); c != 0 {
		return c
	}
	return strings.Compare(n.digits, m.digits)
}

// row is a line, and the number that goes ahead of it in order.
type row struct {
	number
	line string
}

// ranked: the lines as rows, with their numbers as of tells them.
func ranked(lines []string, of func(line string) number) []row {
	var l []row
	for _, line := range lines {
		l = append(l, row{of(line), line})
	}
	return l
}

func (r row) compare(q row) int {
	if c := r.number.compare(q.number); c != 0 {
		return c
	}
	return strings.Compare(r.line, q.line)
}

// told: what of tells of each, each with a newline.
func told[T any](l []T, of func(T) string) string {
	var out strings.Builder
	for _, x := range l {
		out.WriteString(of(x))
		out.WriteByte('\n')
	}
	return out.String()
}

// part: what of a line stands behind so many marks less one, up to the next; nothing, if there are fewer.
func part(line string, mark byte, field int) string {
	for ; field > 1; field-- {
		at := strings.IndexByte(line, mark)
		if at < 0 {
			return ""
		}
		line = line[at+1:]
	}
	end := strings.IndexByte(line, mark)
	switch {
	case field < 1:
		return ""
	case end < 0:
		return line
	}
	return line[:end]
}

// rewritten: the text, each octet by the one that by tells; without it, where that tells false.
func rewritten(s string, by func(c byte) (byte, bool)) string {
	var out strings.Builder
	for i := range len(s) {
		if c, ok := by(s[i]); ok {
			out.WriteByte(c)
		}
	}
	return out.String()
}
