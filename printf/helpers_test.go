package printf

import (
	"fmt"
	"math/rand"
	"regexp"
	"strconv"
	"strings"
)

// octet is the text of one octet; string(rune) would write two for those above 127.
func octet(c int) string { return string([]byte{byte(c)}) }

// list makes arguments of texts.
func list(l ...string) []string { return l }

var escape = regexp.MustCompile(`\\[\\abfnrtv]|\\[0-7]{1,3}`)

// slowEscape: a text's escapes as Go's own texts have them, and octal digits as numbers.
func slowEscape(s string) string {
	return escape.ReplaceAllStringFunc(s, func(m string) string {
		if told, err := strconv.Unquote(`"` + m + `"`); err == nil && len(m) == 2 {
			return told
		}
		n, err := strconv.ParseInt(m[1:], 8, 64)
		if err != nil {
			panic(err)
		}
		if n&255 == 0 {
			return ""
		}
		return octet(int(n & 255))
	})
}

// item is what a format is made of: an escape, %%, a conversion, a fault, another octet.
var item = regexp.MustCompile(`^(?:(\\[\\abfnrtv]|\\[0-7]{1,3})|(%%)|%([-0]?)([0-9]{0,3})([sbdcxo])|(%)|(?s:.))`)

var decimal = regexp.MustCompile(`^[ \t]*([-+]?)([0-9]+)[ \t]*$`)

// slowNumber: an argument's number modulo 2^64, and the status.
func slowNumber(arg string) (int, int) {
	m := decimal.FindStringSubmatch(arg)
	if m == nil {
		return 0, min(1, len(arg))
	}
	n := 0
	for _, d := range m[2] {
		n = n*10 + int(d-'0')
	}
	if m[1] == "-" {
		n = -n
	}
	return n, 0
}

// slowConversion: what a conversion makes of an argument, and the status.
func slowConversion(flag, digits, letter, arg string) (string, int) {
	width, status := 0, 0
	if digits != "" {
		width, _ = strconv.Atoi(digits)
	}
	s := arg
	switch letter {
	case "b":
		s = slowEscape(arg)
	case "c":
		for len(s) > 1 {
			s = s[:len(s)-1]
		}
	case "d", "x", "o":
		var n int
		n, status = slowNumber(arg)
		zeros := 0
		if flag == "0" {
			zeros = width
		}
		if letter == "d" {
			s = fmt.Sprintf("%0*d", zeros, n)
		} else {
			s = fmt.Sprintf("%0*"+letter, zeros, uint64(n))
		}
	}
	for len(s) < width {
		if flag == "-" {
			s += " "
		} else {
			s = " " + s
		}
	}
	return s, status
}

// slowFormat goes through the format item by item, by the document's words.
func slowFormat(format string, args []string) (string, int) {
	out, status := "", 0
	for {
		took := false
		for rest := format; rest != ""; {
			m := item.FindStringSubmatch(rest)
			rest = rest[len(m[0]):]
			switch {
			case m[1] != "":
				out += slowEscape(m[1])
			case m[2] != "":
				out += "%"
			case m[5] != "":
				arg := ""
				if len(args) > 0 {
					arg, args = args[0], args[1:]
				}
				s, n := slowConversion(m[3], m[4], m[5], arg)
				out, status, took = out+s, max(status, n), true
			case m[6] != "":
				return out, 1
			default:
				out += m[0]
			}
		}
		if !took || len(args) == 0 {
			return out, status
		}
	}
}

// slowConversions counts a format's conversions up to a fault.
func slowConversions(format string) int {
	n := 0
	for format != "" {
		m := item.FindStringSubmatch(format)
		format = format[len(m[0]):]
		if m[6] != "" {
			break
		}
		if m[5] != "" {
			n++
		}
	}
	return n
}

// spans: every text of those octets that is at most so long.
func spans(octets string, most int) []string {
	all := []string{""}
	last := all
	for range most {
		var next []string
		for _, s := range last {
			for i := range len(octets) {
				next = append(next, s+octets[i:i+1])
			}
		}
		all = append(all, next...)
		last = next
	}
	return all
}

// some: texts of that list by chance, one behind the other.
func some(r *rand.Rand, most int, l ...string) string {
	var b strings.Builder
	for range r.Intn(most + 1) {
		b.WriteString(l[r.Intn(len(l))])
	}
	return b.String()
}

// anyFormat: a format by chance, seldom one with a fault.
func anyFormat(r *rand.Rand) string {
	return some(r, 8, "a", " ", "\x00", "\xff", "é", "7", "-", "%%", `\`, `\n`, `\\`, `\1`, `\45`, `\0`, `\q`,
		"%s", "%b", "%d", "%c", "%x", "%o", "%5s", "%-4b", "%06d", "%-7d", "%3c", "%020x", "%-9o", "%09s", "%"+some(r, 4, "-", "0", "1", "2")+"d")
}

// anyArgs: arguments by chance.
func anyArgs(r *rand.Rand) []string {
	var l []string
	for range r.Intn(6) {
		l = append(l, some(r, 2, "", "a", "-", "+", "5", "17", "010", "-3", " ", "\t", `\t`, `\101`, `\0`, `\`, "%s", "%", "é", "\x00", "\xff", "9223372036854775808"))
	}
	return l
}
