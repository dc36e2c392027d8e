package ansi

import (
	"fmt"
	"math"
	"strings"
	"testing"
	"unsafe"

	"cowrie/api"
)

// octetText is the text of one octet; string(rune) would write two for those above 127.
func octetText(c int) string { return string([]byte{byte(c)}) }

// chance makes the same texts of the octets of odd in every run.
func chance(odd string, count, longest int) []string {
	var l []string
	seed := uint32(7)
	for n := range count {
		b := make([]byte, n%(longest+1))
		for i := range b {
			seed = seed*1664525 + 1013904223
			b[i] = odd[int(seed>>8)%len(odd)]
		}
		l = append(l, string(b))
	}
	return l
}

// texts are ordinary and odd ones, all of which may be.
func texts() []string {
	l := []string{
		"", "a", "a b", "'", "''", "\\", "\\\\", "\\'", "'\\", "\\n", "\\x41", "\\101", "\n", "\t", "\r", "\a\b\x1b\f\v",
		"\x01" + "7", "\x7f" + "0", "\xff" + "12", "é", "\xff\xfe", "$x \"y\" `z`", "a\nb\n",
		strings.Repeat("a", api.MaxText), strings.Repeat("\xff", api.MaxText), strings.Repeat("\\", api.MaxText), strings.Repeat("'", api.MaxText),
	}
	for c := 1; c < 256; c++ {
		l = append(l, octetText(c), octetText(c)+"0", "\\"+octetText(c), octetText(c)+octetText(c))
	}
	return append(l, chance("\\'\"\n\t\r\x01\x1f\x20\x7e\x7f\x80\xffabnx0178", 600, 40)...)
}

// decoded asks for a text that has no fault.
func decoded(t *testing.T, s, want string) {
	t.Helper()
	if got, n, e := Decode(s); got != want || n != len(s) || e != api.OK {
		t.Errorf("P2.1: Decode(%.40q): %.40q, %d, %d, want %.40q, %d, %d", s, got, n, e, want, len(s), api.OK)
	}
}

// refused asks for a fault, its place, and nothing beside it.
func refused(t *testing.T, s string, place int, want api.Errno) {
	t.Helper()
	if got, n, e := Decode(s); got != "" || n != place || e != want {
		t.Errorf("P2.1: Decode(%.40q): %.40q, %d, %d, want %q, %d, %d", s, got, n, e, "", place, want)
	}
}

// TestDecode: P2.1, ordinary texts.
func TestDecode(t *testing.T) {
	cases := []struct{ s, want string }{
		{"", ""},
		{"a", "a"},
		{`a\n`, "a\n"},
		{`\\`, `\`},
		{`\\n`, `\n`},
		{`\\\n`, "\\\n"},
		{`\'`, "'"},
		{`\"`, `"`},
		{`"`, `"`},
		{`it\'s`, "it's"},
		{`\a\b\e\f\n\r\t\v`, "\a\b\x1b\f\n\r\t\v"},
		{"a\nb\tc", "a\nb\tc"},
		{"$x `y` * ?", "$x `y` * ?"},
		{"é\xff", "é\xff"},
		{"A\\101A", "AAA"},
		{`\x41B\x42`, "ABB"},
		{`\\x41`, `\x41`},
		{`\\101`, `\101`},
		{strings.Repeat("a", 3*api.MaxText), strings.Repeat("a", 3*api.MaxText)},
		{strings.Repeat(`\377`, api.MaxText), strings.Repeat("\xff", api.MaxText)},
	}
	for _, c := range cases {
		decoded(t, c.s, c.want)
	}
}

// TestDecodeOctets: P2.1, each octet bare, and behind a backslash.
func TestDecodeOctets(t *testing.T) {
	escapes := map[int]int{
		'\\': '\\', '\'': '\'', '"': '"', 'a': 7, 'b': 8, 'e': 27, 'f': 12, 'n': 10, 'r': 13, 't': 9, 'v': 11,
		'1': 1, '2': 2, '3': 3, '4': 4, '5': 5, '6': 6, '7': 7,
	}
	for c := range 256 {
		s := octetText(c)
		switch c {
		case 0, '\'':
			refused(t, s, 0, api.ErrText)
			refused(t, "ab"+s+"c", 2, api.ErrText)
		case '\\':
			refused(t, s, 0, api.ErrSyntax)
		default:
			decoded(t, s, s)
			decoded(t, "a"+s+"b", "a"+s+"b")
		}
		if v, ok := escapes[c]; ok {
			decoded(t, `\`+s, octetText(v))
			decoded(t, `a\`+s+"z", "a"+octetText(v)+"z")
			continue
		}
		refused(t, `\`+s, 0, api.ErrSyntax)
		refused(t, `a\`+s+"z", 1, api.ErrSyntax)
	}
}

// TestDecodeOctal: P2.1, all numbers of one to three digits, and what may stand behind them.
func TestDecodeOctal(t *testing.T) {
	for n := range 512 {
		forms := []string{fmt.Sprintf(`\%03o`, n)}
		if n < 64 {
			forms = append(forms, fmt.Sprintf(`\%02o`, n))
		}
		if n < 8 {
			forms = append(forms, fmt.Sprintf(`\%o`, n))
		}
		for _, s := range forms {
			if n == 0 || n > 255 {
				refused(t, s, 0, api.ErrSyntax)
				refused(t, "ab"+s+"z", 2, api.ErrSyntax)
				continue
			}
			decoded(t, s, octetText(n))
			decoded(t, s+"8", octetText(n)+"8")
			decoded(t, s+"a", octetText(n)+"a")
			decoded(t, s+s, octetText(n)+octetText(n))
			if len(s) == 4 {
				decoded(t, s+"1", octetText(n)+"1")
			}
		}
	}
	refused(t, `\8`, 0, api.ErrSyntax)
	refused(t, `\08`, 0, api.ErrSyntax)
	refused(t, `\0000`, 0, api.ErrSyntax)
	refused(t, `\0001`, 0, api.ErrSyntax)
}

// TestDecodeHex: P2.1, all numbers of one or two digits, in both cases, and what may stand behind them.
func TestDecodeHex(t *testing.T) {
	for n := range 256 {
		forms := []string{fmt.Sprintf(`\x%02x`, n), fmt.Sprintf(`\x%02X`, n)}
		if n < 16 {
			forms = append(forms, fmt.Sprintf(`\x%x`, n), fmt.Sprintf(`\x%X`, n))
		}
		for _, s := range forms {
			if n == 0 {
				refused(t, s, 0, api.ErrSyntax)
				refused(t, "ab"+s+"z", 2, api.ErrSyntax)
				continue
			}
			decoded(t, s, octetText(n))
			decoded(t, s+"g", octetText(n)+"g")
			decoded(t, s+s, octetText(n)+octetText(n))
			if len(s) == 4 {
				decoded(t, s+"1f", octetText(n)+"1f")
			}
		}
	}
	for _, s := range []string{`\x`, `\xg`, `\x\x41`, `\x 1`, `\x'`, "\\x\x00", `\X41`, `\x000`, `\x001`, `\x@1`, `\xG1`, "\\x`1"} {
		refused(t, s, 0, api.ErrSyntax)
		refused(t, "a"+s, 1, api.ErrSyntax)
	}
}

// TestDecodeDigits: P2.1, each octet where a digit may stand, first and behind another one.
func TestDecodeDigits(t *testing.T) {
	const hex = "0123456789abcdefABCDEF"
	for c := 1; c < 256; c++ {
		s := octetText(c)
		if c == '\'' || c == '\\' {
			continue
		}
		if !strings.Contains(hex, s) {
			refused(t, `\x`+s+"1", 0, api.ErrSyntax)
			decoded(t, `\x4`+s, "\x04"+s)
		}
		if !strings.Contains(hex[:8], s) {
			decoded(t, `\4`+s, "\x04"+s)
			decoded(t, `\44`+s, "\x24"+s)
		}
	}
}

// TestDecodeFaults: P2.1, the first fault is told, wherever others stand.
func TestDecodeFaults(t *testing.T) {
	cases := []struct {
		s     string
		place int
		want  api.Errno
	}{
		{`a\q`, 1, api.ErrSyntax},
		{`a\`, 1, api.ErrSyntax},
		{`\\\`, 2, api.ErrSyntax},
		{`\q\w`, 0, api.ErrSyntax},
		{`\q'`, 0, api.ErrSyntax},
		{`'\q`, 0, api.ErrText},
		{"\x00\\q", 0, api.ErrText},
		{"\\q\x00", 0, api.ErrSyntax},
		{"a\x00b'", 1, api.ErrText},
		{"a'b\x00", 1, api.ErrText},
		{`\n\t'`, 4, api.ErrText},
		{`\'\''`, 4, api.ErrText},
		{`\\'`, 2, api.ErrText},
		{`\101\400`, 4, api.ErrSyntax},
		{`\377\x0`, 4, api.ErrSyntax},
		{"\\\x00", 0, api.ErrSyntax},
		{`\u0041`, 0, api.ErrSyntax},
		{`\E`, 0, api.ErrSyntax},
		{`\c`, 0, api.ErrSyntax},
		{"\\\n", 0, api.ErrSyntax},
		{"\\\xff", 0, api.ErrSyntax},
		{strings.Repeat("a", 2*api.MaxText) + "'", 2 * api.MaxText, api.ErrText},
	}
	for _, c := range cases {
		refused(t, c.s, c.place, c.want)
	}
}

// TestEncode: P2.1.
func TestEncode(t *testing.T) {
	full := strings.Repeat("a", api.MaxText)
	cases := []struct {
		s, want string
		e       api.Errno
	}{
		{"", "", api.OK},
		{"a b", "a b", api.OK},
		{"a\n", `a\n`, api.OK},
		{"it's", `it\'s`, api.OK},
		{`a\n`, `a\\n`, api.OK},
		{`"`, `"`, api.OK},
		{"\n\t\r", `\n\t\r`, api.OK},
		{"\a\b\v\f\x1b", `\007\010\013\014\033`, api.OK},
		{"\x017", `\0017`, api.OK},
		{"\x1f ~\x7f", `\037 ~\177`, api.OK},
		{"é", `\303\251`, api.OK},
		{"\x80\xff", `\200\377`, api.OK},
		{full, full, api.OK},
		{strings.Repeat("\xff", api.MaxText), strings.Repeat(`\377`, api.MaxText), api.OK},
		{"\x00", "", api.ErrText},
		{"a\x00b", "", api.ErrText},
		{full + "a", "", api.ErrLong},
		{full + "\x00", "", api.ErrText},
	}
	for _, c := range cases {
		if got, e := Encode(c.s); got != c.want || e != c.e {
			t.Errorf("P2.1: Encode(%.20q): %.40q, %d, want %.40q, %d", c.s, got, e, c.want, c.e)
		}
	}
}

// TestEncodeOctets: P2.1, each octet.
func TestEncodeOctets(t *testing.T) {
	named := map[int]string{'\\': `\\`, '\'': `\'`, '\n': `\n`, '\t': `\t`, '\r': `\r`}
	for c := 1; c < 256; c++ {
		want := octetText(c)
		if c < 32 || c > 126 {
			want = fmt.Sprintf(`\%03o`, c)
		}
		if w, ok := named[c]; ok {
			want = w
		}
		if got, e := Encode(octetText(c)); got != want || e != api.OK {
			t.Errorf("P2.1: Encode of octet %d: %q, %d, want %q", c, got, e, want)
		}
		if got, e := Encode("0" + octetText(c) + "0"); got != "0"+want+"0" || e != api.OK {
			t.Errorf("P2.1: Encode of octet %d among others: %q, %d, want %q", c, got, e, "0"+want+"0")
		}
	}
}

// TestScan: P2.1.
func TestScan(t *testing.T) {
	cases := []struct {
		s        string
		at, want int
		e        api.Errno
	}{
		{"a'b", 0, 1, api.OK},
		{"'", 0, 0, api.OK},
		{"''", 1, 1, api.OK},
		{"a'b'c", 2, 3, api.OK},
		{`a\'b'`, 0, 4, api.OK},
		{`a\\'b'`, 0, 3, api.OK},
		{`a\\\'b'`, 0, 6, api.OK},
		{`\'`, 0, 2, api.ErrShort},
		{`\'`, 1, 1, api.OK},
		{`\\'`, 1, 3, api.ErrShort},
		{`$'a\'b' 'c'`, 2, 6, api.OK},
		{"a\x00\n'", 0, 3, api.OK},
		{"é\xff'", 0, 3, api.OK},
		{`\q'`, 0, 2, api.OK},
		{`"'"`, 0, 1, api.OK},
		{"", 0, 0, api.ErrShort},
		{"abc", 0, 3, api.ErrShort},
		{"abc", 3, 3, api.ErrShort},
		{"a'c", 2, 3, api.ErrShort},
		{"a'", 2, 2, api.ErrShort},
		{`a\`, 0, 2, api.ErrShort},
		{"a'", 3, 0, api.ErrRange},
		{"a'", -1, 0, api.ErrRange},
		{"", 1, 0, api.ErrRange},
		{"", -1, 0, api.ErrRange},
		{"'", math.MaxInt, 0, api.ErrRange},
		{"'", math.MinInt, 0, api.ErrRange},
		{strings.Repeat("a", 2*api.MaxText) + "'", 0, 2 * api.MaxText, api.OK},
		{strings.Repeat(`\'`, api.MaxText), 0, 2 * api.MaxText, api.ErrShort},
	}
	for _, c := range cases {
		if got, e := Scan(c.s, c.at); got != c.want || e != c.e {
			t.Errorf("P2.1: Scan(%.30q, %d): %d, %d, want %d, %d", c.s, c.at, got, e, c.want, c.e)
		}
	}
}

// TestScanOctets: P2.1, each octet bare, and one that a backslash takes with it.
func TestScanOctets(t *testing.T) {
	for c := range 256 {
		if got, e := Scan(`\`+octetText(c)+"'", 0); got != 2 || e != api.OK {
			t.Errorf("P2.1: Scan behind a backslash and octet %d: %d, %d, want 2", c, got, e)
		}
		if c == '\'' || c == '\\' {
			continue
		}
		if got, e := Scan(octetText(c)+"'", 0); got != 1 || e != api.OK {
			t.Errorf("P2.1: Scan behind octet %d: %d, %d, want 1", c, got, e)
		}
	}
}

// TestScanRuns: P2.1, a ' counts behind an even number of backslashes, counted back no further than to at.
func TestScanRuns(t *testing.T) {
	for _, s := range chance(`\\'a`, 400, 12) {
		for at := 0; at <= len(s); at++ {
			want, e := len(s), api.ErrShort
			for i := at; i < len(s); i++ {
				run := 0
				for i-run > at && s[i-run-1] == '\\' {
					run++
				}
				if s[i] == '\'' && run%2 == 0 {
					want, e = i, api.OK
					break
				}
			}
			if got, f := Scan(s, at); got != want || f != e {
				t.Errorf("P2.1: Scan(%q, %d): %d, %d, want %d, %d", s, at, got, f, want, e)
			}
		}
	}
}

// TestThereAndBack: P2.2, and that what Encode tells stands within ' ' to its end (G5).
func TestThereAndBack(t *testing.T) {
	for _, s := range texts() {
		coded, e := Encode(s)
		if e != api.OK {
			t.Fatalf("P2.2: Encode(%.40q): %d", s, e)
		}
		if got, n, e := Decode(coded); got != s || n != len(coded) || e != api.OK {
			t.Errorf("P2.2: Decode(%.40q): %.40q, %d, %d, want %.40q, %d, %d", coded, got, n, e, s, len(coded), api.OK)
		}
		if end, e := Scan("$'"+coded+"'z'", 2); end != 2+len(coded) || e != api.OK {
			t.Errorf("P2.2: Scan behind %.40q: %d, %d, want %d", coded, end, e, 2+len(coded))
		}
	}
}

// shares: does a lie within b's memory?
func shares(a, b string) bool {
	if a == "" || b == "" {
		return false
	}
	at, from := uintptr(unsafe.Pointer(unsafe.StringData(a))), uintptr(unsafe.Pointer(unsafe.StringData(b)))
	return at >= from && at < from+uintptr(len(b))
}

// TestMemory: P2.3, an answer shares no octets with the text handed in, nor with the answer to the same question.
func TestMemory(t *testing.T) {
	for _, s := range []string{"ab", "a b c", `a\n`, strings.Repeat("a", api.MaxText)} {
		one, _, _ := Decode(s)
		two, _, _ := Decode(s)
		if one == "" || shares(one, s) || shares(two, one) {
			t.Errorf("P2.3: Decode(%.20q) shares memory", s)
		}
		one, _ = Encode(s)
		two, _ = Encode(s)
		if one == "" || shares(one, s) || shares(two, one) {
			t.Errorf("P2.3: Encode(%.20q) shares memory", s)
		}
	}
}

// TestAgain: P2.3, nothing is kept: a call answers the same whatever was asked ahead of it, a fault too.
func TestAgain(t *testing.T) {
	for _, s := range append(texts(), `\q`, "'", "\x00", `\`, strings.Repeat("a", api.MaxText+1)) {
		text, n, e := Decode(s)
		coded, f := Encode(s)
		end, g := Scan(s, 0)
		Decode(`a\q`)
		Decode(`\x41`)
		Encode("a\nb")
		Scan(`\`, 0)
		if again, m, h := Decode(s); again != text || m != n || h != e {
			t.Errorf("P2.3: another answer of Decode for %.20q", s)
		}
		if again, h := Encode(s); again != coded || h != f {
			t.Errorf("P2.3: another answer of Encode for %.20q", s)
		}
		if m, h := Scan(s, 0); m != end || h != g {
			t.Errorf("P2.3: another answer of Scan for %.20q", s)
		}
	}
}
