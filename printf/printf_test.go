package printf

import (
	"math/rand"
	"strings"
	"testing"
)

// TestEcho: P9.1.
func TestEcho(t *testing.T) {
	for _, c := range []struct {
		args []string
		want string
	}{
		{nil, "\n"},
		{list(), "\n"},
		{list(""), "\n"},
		{list("a"), "a\n"},
		{list("a", "b"), "a b\n"},
		{list("a", "", "b"), "a  b\n"},
		{list("", ""), " \n"},
		{list("a b", " c "), "a b  c \n"},
		{list("-n"), ""},
		{list("-n", ""), ""},
		{list("-n", "a"), "a"},
		{list("-n", "a", "b"), "a b"},
		{list("-n", "", ""), " "},
		{list("-n", "-n"), "-n"},
		{list("-n", "-n", "a"), "-n a"},
		{list("a", "-n"), "a -n\n"},
		{list("", "-n"), " -n\n"},
		{list("-nn"), "-nn\n"},
		{list("-n "), "-n \n"},
		{list("-N", "a"), "-N a\n"},
		{list("-e", "a"), "-e a\n"},
		{list("-E", "a"), "-E a\n"},
		{list("-ne", "a"), "-ne a\n"},
		{list("--", "a"), "-- a\n"},
		{list("-", "n"), "- n\n"},
		// echo knows no escapes and no conversions
		{list(`a\nb`, `\\`, `\101`, "%s", "%"), `a\nb \\ \101 %s %` + "\n"},
		{list("a\n", "\x00\xffé"), "a\n \x00\xffé\n"},
	} {
		if s := Echo(c.args); s != c.want || Echo(c.args) != s {
			t.Errorf("P9.1: Echo(%q): %q, want %q", c.args, s, c.want)
		}
	}
}

// TestEscape: P9.1.
func TestEscape(t *testing.T) {
	for _, c := range []struct{ s, want string }{
		{"", ""},
		{"a b", "a b"},
		{`\\`, `\`},
		{`\a\b\f\n\r\t\v`, "\x07\x08\x0c\x0a\x0d\x09\x0b"},
		{`a\nb`, "a\nb"},
		{`\\n`, `\n`},
		{`\\\n`, "\\\n"},
		{`\\\\`, `\\`},
		{`\101`, "A"},
		{`\1`, "\x01"},
		{`\12`, "\n"},
		{`\012`, "\n"},
		{`\1012`, "A2"},
		{`\0101`, "\x081"},
		{`\18`, "\x018"},
		{`\779`, "?9"},
		{`\377`, "\xff"},
		{`\777`, "\xff"},
		{`\401`, "\x01"},
		{`\501`, "A"},
		{`a\0b`, "ab"},
		{`a\00b`, "ab"},
		{`a\000b`, "ab"},
		{`a\0000b`, "a0b"},
		{`a\400b`, "ab"},
		{`\1\2`, "\x01\x02"},
		// all else is as it is
		{`\`, `\`},
		{`a\`, `a\`},
		{`\\\`, `\\`},
		{`\8`, `\8`},
		{`\9`, `\9`},
		{`\e`, `\e`},
		{`\c`, `\c`},
		{`\x41`, `\x41`},
		{`\u0041`, `\u0041`},
		{`\'\"\?`, `\'\"\?`},
		{`\N`, `\N`},
		{`\q\n`, "\\q\n"},
		{"\\\n", "\\\n"},
		{`\ n`, `\ n`},
		{`\%s %s %%`, `\%s %s %%`},
		{"\x00\xff\\\x00\\\xff", "\x00\xff\\\x00\\\xff"},
		{`é\é`, `é\é`},
		{`\45s`, "%s"},
		{`\134n`, `\n`},
	} {
		if s := Escape(c.s); s != c.want || Escape(c.s) != s {
			t.Errorf("P9.1: Escape(%q): %q, want %q", c.s, s, c.want)
		}
	}
}

// TestEscapeAll: P9.1, each octet behind a backslash, all octal numbers, and all short texts.
func TestEscapeAll(t *testing.T) {
	for i := range 256 {
		c := octet(i)
		for _, s := range list(c, `\`+c, `a\`+c+"b", `\`+c+c, `\\`+c, `\1`+c, `\12`+c, `\123`+c) {
			if got := Escape(s); got != slowEscape(s) {
				t.Errorf("P9.1: Escape(%q): %q, want %q", s, got, slowEscape(s))
			}
		}
	}
	for _, s := range append(spans("01234567", 4), spans(`\n08a`, 6)...) {
		for _, s := range list(s, `\`+s) {
			if got := Escape(s); got != slowEscape(s) {
				t.Fatalf("P9.1: Escape(%q): %q, want %q", s, got, slowEscape(s))
			}
		}
	}
}

// formatted asks Format for a text and a status, twice.
func formatted(t *testing.T, format string, args []string, want string, status int) {
	t.Helper()
	for range 2 {
		if s, n := Format(format, args); s != want || n != status {
			t.Errorf("P9.2: Format(%q, %q): %q %d, want %q %d", format, args, s, n, want, status)
		}
	}
}

// TestFormat: P9.2, each conversion, and texts.
func TestFormat(t *testing.T) {
	formatted(t, "%s-", list("a", "b"), "a-b-", 0) // the document's example
	for _, c := range []struct {
		format string
		args   []string
		want   string
		status int
	}{
		{"", nil, "", 0},
		{"", list("a"), "", 0},
		{"a b", nil, "a b", 0},
		{"a", list("b", "c"), "a", 0},
		{"%%", nil, "%", 0},
		{"%%%%", nil, "%%", 0},
		{"%%s", list("a"), "%s", 0},
		{"%%%s", list("a", "b"), "%a%b", 0},
		{"100%%\n", list("a", "b"), "100%\n", 0},
		{"\x00\xffé%s", list("\x00\xffé"), "\x00\xffé\x00\xffé", 0},
		// escapes
		{`a\nb\\`, nil, "a\nb\\", 0},
		{`\101\0\400`, nil, "A", 0},
		{`\q\`, nil, `\q\`, 0},
		{`\%s`, list("a"), `\a`, 0},
		{`\\%s`, list("n"), `\n`, 0},
		{`\%%`, nil, `\%`, 0},
		{`\45s`, list("a"), "%s", 0},
		{`%s1`, list(`\10`), `\101`, 0},
		{`\1%d`, list("5"), "\x015", 0},
		// %s and %b
		{"%s", list("a b"), "a b", 0},
		{"%s", list(`\n%d`), `\n%d`, 0},
		{"%s", nil, "", 0},
		{"<%s>", list(""), "<>", 0},
		{"%b", list(`\n%d\101\0`), "\n%dA", 0},
		{"%b", list(`\`), `\`, 0},
		{"%b|", list("a", `\c`, `\e`), `a|\c|\e|`, 0},
		{"%b", nil, "", 0},
		// %c
		{"%c", list("abc"), "a", 0},
		{"%c", list("é"), "\xc3", 0},
		{"%c", list(`\n`), `\`, 0},
		{"%c", list("\x00a"), "\x00", 0},
		{"<%c>", list(""), "<>", 0},
		{"<%c>", nil, "<>", 0},
		// once more
		{"%s %s\n", list("a", "b", "c"), "a b\nc \n", 0},
		{"%s,", list("a", "", "c"), "a,,c,", 0},
		{"%d %s;", list("1", "a", "2"), "1 a;2 ;", 0},
		{"%s %d %c %x %o %b;", list("a"), "a 0  0 0 ;", 0},
		{"%s", list("a", "b", "c"), "abc", 0},
	} {
		formatted(t, c.format, c.args, c.want, c.status)
	}
}

// TestFormatNumbers: P9.2, %d, %x and %o.
func TestFormatNumbers(t *testing.T) {
	for _, c := range []struct {
		format, arg, want string
		status            int
	}{
		{"%d", "42", "42", 0}, {"%d", "-42", "-42", 0}, {"%d", "+7", "7", 0}, {"%d", "010", "10", 0}, {"%d", " \t5\t ", "5", 0},
		{"%d", "-0", "0", 0}, {"%d", "9223372036854775807", "9223372036854775807", 0}, {"%d", "-9223372036854775808", "-9223372036854775808", 0},
		{"%d", "9223372036854775808", "-9223372036854775808", 0}, {"%d", "18446744073709551621", "5", 0},
		{"%x", "255", "ff", 0}, {"%x", "48879", "beef", 0}, {"%x", "0", "0", 0}, {"%x", "-1", "ffffffffffffffff", 0}, {"%x", "010", "a", 0},
		{"%x", "18446744073709551615", "ffffffffffffffff", 0}, {"%x", "18446744073709551616", "0", 0}, {"%x", "-9223372036854775808", "8000000000000000", 0},
		{"%o", "8", "10", 0}, {"%o", "511", "777", 0}, {"%o", "-1", "1777777777777777777777", 0}, {"%o", "0", "0", 0},
		// an empty one is 0
		{"%d", "", "0", 0}, {"%x", "", "0", 0}, {"%o", "", "0", 0},
		// another one is, too, and the status tells it
		{"%d", "a", "0", 1}, {"%d", " ", "0", 1}, {"%d", "\t", "0", 1}, {"%d", "1a", "0", 1}, {"%d", "0x1f", "0", 1}, {"%d", "1 2", "0", 1},
		{"%d", "-", "0", 1}, {"%d", "+-5", "0", 1}, {"%d", "1.5", "0", 1}, {"%d", "'a", "0", 1}, {"%d", "5\n", "0", 1}, {"%d", "\x00", "0", 1},
		{"%x", "ff", "0", 1}, {"%x", " ", "0", 1}, {"%o", "q", "0", 1}, {"%04d", "z", "0000", 1}, {"%-4x|", "z", "0   |", 1},
	} {
		formatted(t, c.format, list(c.arg), c.want, c.status)
	}
	formatted(t, "%d,", nil, "0,", 0)
	formatted(t, "%x%o,", nil, "00,", 0)
	formatted(t, "%d,", list("x", "2", "3"), "0,2,3,", 1)
	formatted(t, "%d,", list("1", "2", "x"), "1,2,0,", 1)
	formatted(t, "%d %s;", list("1", "x", "y", "2"), "1 x;0 2;", 1)
	formatted(t, "%s%b%c,", list("x", "y", "z"), "xyz,", 0)
}

// TestFormatWide: P9.2, what stands between % and the letter.
func TestFormatWide(t *testing.T) {
	for _, c := range []struct{ format, arg, want string }{
		{"%5s|", "ab", "   ab|"}, {"%-5s|", "ab", "ab   |"}, {"%05s|", "ab", "   ab|"}, {"%05s|", "-5", "   -5|"},
		{"%1s|", "ab", "ab|"}, {"%2s|", "ab", "ab|"}, {"%3s|", "ab", " ab|"}, {"%0s|", "ab", "ab|"}, {"%-s|", "ab", "ab|"}, {"%00s|", "", "|"}, {"%0000s|", "ab", "ab|"},
		{"%3s|", "é", " é|"}, {"%3s|", "", "   |"}, {"%-3s|", "", "   |"},
		{"%5b|", `a\n`, "   a\n|"}, {"%-5b|", `\101`, "A    |"}, {"%05b|", `a`, "    a|"}, {"%2b|", `\0`, "  |"},
		{"%3c|", "ab", "  a|"}, {"%-3c|", "ab", "a  |"}, {"%03c|", "ab", "  a|"}, {"%3c|", "", "   |"}, {"%03c|", "-", "  -|"},
		{"%5d|", "42", "   42|"}, {"%5d|", "-42", "  -42|"}, {"%-5d|", "-42", "-42  |"}, {"%05d|", "42", "00042|"}, {"%05d|", "-42", "-0042|"},
		{"%03d|", "-42", "-42|"}, {"%04d|", "-42", "-042|"}, {"%02d|", "-42", "-42|"}, {"%05d|", "+42", "00042|"}, {"%0d|", "-42", "-42|"}, {"%-d|", "7", "7|"},
		{"%03d|", "", "000|"}, {"%03d|", "0", "000|"}, {"%3d|", "", "  0|"}, {"%-3d|", "", "0  |"}, {"%000d|", "5", "5|"},
		{"%6x|", "255", "    ff|"}, {"%06x|", "255", "0000ff|"}, {"%-6x|", "255", "ff    |"}, {"%018x|", "-1", "00ffffffffffffffff|"}, {"%016x|", "-1", "ffffffffffffffff|"},
		{"%6o|", "8", "    10|"}, {"%06o|", "8", "000010|"}, {"%-6o|", "8", "10    |"},
		// digits, at most 3, behind - or 0 or neither
		{"%10d|", "5", "         5|"}, {"%010d|", "5", "0000000005|"}, {"%-10d|", "5", "5         |"}, {"%0010d|", "5", "0000000005|"}, {"%-010d|", "5", "5         |"}, {"%-003d|", "5", "5  |"},
		{"%999s|", "a", strings.Repeat(" ", 998) + "a|"}, {"%-999s|", "a", "a" + strings.Repeat(" ", 998) + "|"}, {"%0999d|", "-1", "-" + strings.Repeat("0", 997) + "1|"},
		{"%100d|", "1", strings.Repeat(" ", 99) + "1|"}, {"%0100x|", "1", strings.Repeat("0", 99) + "1|"},
	} {
		formatted(t, c.format, list(c.arg), c.want, 0)
	}
}

// TestFormatFault: P9.2, it is told up to the fault, and not once more.
func TestFormatFault(t *testing.T) {
	for _, c := range []struct{ format, want string }{
		{"%", ""}, {"a%", "a"}, {"%s%", "x"}, {"%%%", "%"}, {"%s-%q-%s", "x-"}, {"%s%", "x"}, {"%q%s", ""}, {`a\n%y\n`, "a\n"}, {"%s,%s%i", "x,y"},
		{"a%5", "a"}, {"a%-", "a"}, {"a%0", "a"}, {"a%-5", "a"}, {"a%05", "a"}, {"a%123", "a"}, {"a%5%", "a"}, {"a%-%", "a"}, {"a%0%s", "a"},
		{"a%1234s", "a"}, {"a%01234s", "a"}, {"a%-1234s", "a"}, {"a%00000s", "a"}, {"a%--5s", "a"}, {"a%-+5s", "a"}, {"a%0-5s", "a"}, {"a%5-s", "a"}, {"a%5 s", "a"},
		{"a% s", "a"}, {"a%+d", "a"}, {"a%#x", "a"}, {"a%.2s", "a"}, {"a%5.2s", "a"}, {"a%*d", "a"}, {"a%ld", "a"}, {"a%1$s", "a"}, {`a%\n`, "a"}, {`a%\163`, "a"},
		{"a%D", "a"}, {"a%S", "a"}, {"a%X", "a"}, {"a%i", "a"}, {"a%u", "a"}, {"a%f", "a"}, {"a%e", "a"}, {"a%g", "a"}, {"a%n", "a"}, {"a%\x00", "a"}, {"a%\xff", "a"}, {"a%é", "a"},
	} {
		formatted(t, c.format, list("x", "y", "z"), c.want, 1)
	}
	formatted(t, "%d%", list("x"), "0", 1)
	formatted(t, "%", nil, "", 1)
	formatted(t, "%s%", nil, "", 1)
}

// TestConversions: P9.2.
func TestConversions(t *testing.T) {
	for _, c := range []struct {
		format string
		want   int
	}{
		{"", 0}, {"a", 0}, {"%%", 0}, {"%%s", 0}, {"%s", 1}, {"%s%b%d%c%x%o", 6}, {"%5s %-5s %05d", 3}, {"%%%s%%", 1}, {`\%s`, 1}, {`\\%s`, 1}, {`\45s`, 0}, {`%s\n%s`, 2},
		{"%", 0}, {"%q", 0}, {"%q%s", 0}, {"%s%q%s", 1}, {"%s%", 1}, {"%d%d%1234d%d", 2}, {"%s%5%%s", 1},
	} {
		if n := Conversions(c.format); n != c.want || Conversions(c.format) != n {
			t.Errorf("P9.2: Conversions(%q): %d, want %d", c.format, n, c.want)
		}
	}
}

// holds Format and Conversions against the slow ones.
func holds(t *testing.T, format string, args []string) {
	t.Helper()
	want, status := slowFormat(format, args)
	if s, n := Format(format, args); s != want || n != status {
		t.Fatalf("P9.2: Format(%q, %q): %q %d, want %q %d", format, args, s, n, want, status)
	}
	if n := Conversions(format); n != slowConversions(format) {
		t.Fatalf("P9.2: Conversions(%q): %d, want %d", format, n, slowConversions(format))
	}
}

// TestFormatAll: P9.2, all short formats, and each octet in each place of a conversion.
func TestFormatAll(t *testing.T) {
	for _, s := range append(spans(`%sd50-\n`, 5), spans("%-019d", 6)...) {
		holds(t, s, list("-7", "x"))
		holds(t, s, nil)
	}
	for i := range 256 {
		c := octet(i)
		for _, s := range list("", "%", "%5", "%-", "%0", "%-5", "%05", "%12", "%123", "%-123", "%0123", `\`, `\1`, `\12`, "%s") {
			holds(t, s+c, list("41", "a"))
			holds(t, "<"+s+c+"%s>", list("-41", `\a`, "b"))
		}
		for _, s := range list("%s", "%b", "%d", "%c", "%x", "%o", "%4d", "%03c") {
			holds(t, s, list(c, c+"7", "7"+c, `\`+c))
		}
	}
}

// TestFormatAny: P9.2, formats and arguments by chance.
func TestFormatAny(t *testing.T) {
	r := rand.New(rand.NewSource(9))
	for range 60000 {
		holds(t, anyFormat(r), anyArgs(r))
	}
}
