package number

import (
	"math"
	"math/big"
	"math/rand"
	"strconv"
	"strings"
	"testing"
	"time"
	"unsafe"

	"cowrie/api"
)

// wrapped: a whole number modulo 2^64, as one of 64 bits with a sign, worked out by numbers of any size.
func wrapped(n *big.Int) int {
	all := new(big.Int).Lsh(big.NewInt(1), 64)
	m := new(big.Int).Mod(n, all)
	if m.Bit(63) == 1 {
		m.Sub(m, all)
	}
	return int(m.Int64())
}

// among: is s made of those octets, at least one?
func among(s, octets string) bool {
	return s != "" && strings.Trim(s, octets) == "" && !strings.ContainsFunc(s, func(r rune) bool { return !strings.ContainsRune(octets, r) })
}

// told: the digits in that base as a number modulo 2^64.
func told(digits string, base int) int {
	n, ok := new(big.Int).SetString(digits, base)
	if !ok {
		panic("no digits: " + digits)
	}
	return wrapped(n)
}

// parsed: what Parse answers by the document's words.
func parsed(s string) (int, api.Errno) {
	for s != "" && (s[0] == ' ' || s[0] == '\t') {
		s = s[1:]
	}
	for s != "" && (s[len(s)-1] == ' ' || s[len(s)-1] == '\t') {
		s = s[:len(s)-1]
	}
	sign := ""
	if s != "" && (s[0] == '+' || s[0] == '-') {
		sign, s = s[:1], s[1:]
	}
	if !among(s, "0123456789") {
		return 0, api.ErrSyntax
	}
	return told(sign+s, 10), api.OK
}

// literal: what Literal answers by the document's words.
func literal(s string) (int, api.Errno) {
	switch {
	case s == "0" || among(s, "0123456789") && s[0] != '0':
		return told(s, 10), api.OK
	case (strings.HasPrefix(s, "0x") || strings.HasPrefix(s, "0X")) && among(s[2:], "0123456789abcdefABCDEF"):
		return told(s[2:], 16), api.OK
	case strings.HasPrefix(s, "0") && among(s[1:], "01234567"):
		return told(s[1:], 8), api.OK
	}
	return 0, api.ErrSyntax
}

// spans: every text of those octets that is at most so long.
func spans(octets string, most int) []string {
	all := []string{""}
	last := all
	for range most {
		var next []string
		for _, s := range last {
			for i := range len(octets) {
				next = append(next, s+octets[i:i+1])
			}
		}
		all = append(all, next...)
		last = next
	}
	return all
}

// edges: numbers at which something might turn over.
func edges() []int {
	l := []int{0, math.MinInt64, math.MaxInt64}
	for bit := range 63 {
		n := 1 << bit
		l = append(l, n-1, n, n+1, -n-1, -n, 1-n)
	}
	for n := 1; n <= math.MaxInt64/10; n *= 10 {
		l = append(l, n-1, n, n+1, -n-1, -n, 1-n, 9*n, -9*n)
	}
	r := rand.New(rand.NewSource(4))
	for range 2000 {
		n := int(r.Uint64())
		l = append(l, n, n>>r.Intn(64))
	}
	return l
}

func TestParse(t *testing.T) {
	for _, c := range []struct {
		in    string
		n     int
		errno api.Errno
	}{
		{"0", 0, api.OK}, {"5", 5, api.OK}, {"42", 42, api.OK}, {"+7", 7, api.OK}, {"-7", -7, api.OK},
		{"010", 10, api.OK}, {"-010", -10, api.OK}, {"+08", 8, api.OK}, {"0000", 0, api.OK}, {"-0", 0, api.OK}, {"+0", 0, api.OK},
		{" -5 ", -5, api.OK}, {"\t12\t", 12, api.OK}, {" \t \t3", 3, api.OK}, {"3 \t \t", 3, api.OK},
		{"9223372036854775807", math.MaxInt64, api.OK},
		{"9223372036854775808", math.MinInt64, api.OK},
		{"-9223372036854775808", math.MinInt64, api.OK},
		{"-9223372036854775809", math.MaxInt64, api.OK},
		{"18446744073709551615", -1, api.OK},
		{"-18446744073709551615", 1, api.OK},
		{"18446744073709551616", 0, api.OK},
		{"18446744073709551621", 5, api.OK},
		{"-18446744073709551621", -5, api.OK},
		{"100000000000000000000000000000000000000000", told("1"+strings.Repeat("0", 41), 10), api.OK},
		{strings.Repeat("0", 100) + "9", 9, api.OK},
		{"", 0, api.ErrSyntax}, {" ", 0, api.ErrSyntax}, {" \t", 0, api.ErrSyntax}, {"+", 0, api.ErrSyntax}, {"-", 0, api.ErrSyntax},
		{" - ", 0, api.ErrSyntax}, {"- 5", 0, api.ErrSyntax}, {"+\t5", 0, api.ErrSyntax}, {"+-5", 0, api.ErrSyntax}, {"-+5", 0, api.ErrSyntax},
		{"--5", 0, api.ErrSyntax}, {"++5", 0, api.ErrSyntax}, {"5-", 0, api.ErrSyntax}, {"5+", 0, api.ErrSyntax}, {"1 2", 0, api.ErrSyntax},
		{"1\t2", 0, api.ErrSyntax}, {"12\n", 0, api.ErrSyntax}, {"\n12", 0, api.ErrSyntax}, {"\r12", 0, api.ErrSyntax}, {"12\v", 0, api.ErrSyntax},
		{"a", 0, api.ErrSyntax}, {"1a", 0, api.ErrSyntax}, {"a1", 0, api.ErrSyntax}, {"0x1f", 0, api.ErrSyntax}, {"1.0", 0, api.ErrSyntax},
		{"1_0", 0, api.ErrSyntax}, {"1,0", 0, api.ErrSyntax}, {"1/", 0, api.ErrSyntax}, {"1:", 0, api.ErrSyntax}, {"5\x00", 0, api.ErrSyntax},
		{"\x00", 0, api.ErrSyntax}, {"\xa05", 0, api.ErrSyntax}, {"\u00a05", 0, api.ErrSyntax}, {"\xff", 0, api.ErrSyntax}, {"\u0665", 0, api.ErrSyntax},
	} {
		if n, e := Parse(c.in); n != c.n || e != c.errno {
			t.Errorf("P4.1: Parse(%q): %d %d, asked %d %d", c.in, n, e, c.n, c.errno)
		}
	}
}

// TestParseAll holds Parse against the document's words, for all short texts, all octets and long digits.
func TestParseAll(t *testing.T) {
	texts := spans(" \t+-09a\n", 5)
	for c := range 256 {
		o := string([]byte{byte(c)})
		texts = append(texts, o, o+"7", "7"+o, "7"+o+"7", "-"+o, " "+o+" ")
	}
	for _, s := range digitTexts("0123456789") {
		texts = append(texts, s, "-"+s, "+"+s, " -"+s+"\t")
	}
	for _, s := range texts {
		asked, askedErrno := parsed(s)
		if n, e := Parse(s); n != asked || e != askedErrno {
			t.Fatalf("P4.1: Parse(%q): %d %d, asked %d %d", s, n, e, asked, askedErrno)
		}
	}
}

// digitTexts: texts of those digits, up to some 90 long.
func digitTexts(digits string) []string {
	r := rand.New(rand.NewSource(14))
	var l []string
	for long := 1; long <= 90; long++ {
		for range 20 {
			b := make([]byte, long)
			for i := range b {
				b[i] = digits[r.Intn(len(digits))]
			}
			l = append(l, string(b))
		}
		l = append(l, strings.Repeat(digits[len(digits)-1:], long), digits[1:2]+strings.Repeat("0", long))
	}
	return l
}

func TestPrint(t *testing.T) {
	for _, c := range []struct {
		n    int
		text string
	}{
		{0, "0"}, {1, "1"}, {-1, "-1"}, {9, "9"}, {10, "10"}, {-10, "-10"}, {100, "100"}, {1010, "1010"}, {-5, "-5"},
		{math.MaxInt64, "9223372036854775807"}, {math.MinInt64, "-9223372036854775808"}, {math.MinInt64 + 1, "-9223372036854775807"},
		{1000000000000000000, "1000000000000000000"}, {-1000000000000000000, "-1000000000000000000"},
	} {
		if s := Print(c.n); s != c.text {
			t.Errorf("P4.1: Print(%d): %q", c.n, s)
		}
	}
	for _, n := range edges() {
		if s := Print(n); s != strconv.Itoa(n) {
			t.Errorf("P4.1: Print(%d): %q", n, s)
		}
	}
}

func TestLiteral(t *testing.T) {
	for _, c := range []struct {
		in    string
		n     int
		errno api.Errno
	}{
		{"0", 0, api.OK}, {"1", 1, api.OK}, {"9", 9, api.OK}, {"10", 10, api.OK}, {"42", 42, api.OK}, {"1234567890", 1234567890, api.OK},
		{"0x1f", 31, api.OK}, {"0X1F", 31, api.OK}, {"0xabcdef", 0xabcdef, api.OK}, {"0XABCDEF", 0xabcdef, api.OK}, {"0x0", 0, api.OK}, {"0x09", 9, api.OK},
		{"010", 8, api.OK}, {"00", 0, api.OK}, {"007", 7, api.OK}, {"0777", 511, api.OK}, {"01234567", 342391, api.OK},
		{"9223372036854775807", math.MaxInt64, api.OK}, {"9223372036854775808", math.MinInt64, api.OK},
		{"18446744073709551615", -1, api.OK}, {"18446744073709551616", 0, api.OK}, {"18446744073709551618", 2, api.OK},
		{"0x7fffffffffffffff", math.MaxInt64, api.OK}, {"0x8000000000000000", math.MinInt64, api.OK},
		{"0xffffffffffffffff", -1, api.OK}, {"0x10000000000000000", 0, api.OK}, {"0x1234567890abcdef5", 0x234567890abcdef5, api.OK},
		{"0777777777777777777777", math.MaxInt64, api.OK}, {"01000000000000000000000", math.MinInt64, api.OK},
		{"01777777777777777777777", -1, api.OK}, {"02000000000000000000000", 0, api.OK}, {"02000000000000000000005", 5, api.OK},
		{"", 0, api.ErrSyntax}, {"08", 0, api.ErrSyntax}, {"09", 0, api.ErrSyntax}, {"0008", 0, api.ErrSyntax}, {"0178", 0, api.ErrSyntax}, {"0a", 0, api.ErrSyntax},
		{"0x", 0, api.ErrSyntax}, {"0X", 0, api.ErrSyntax}, {"x", 0, api.ErrSyntax}, {"x1", 0, api.ErrSyntax}, {"0xg", 0, api.ErrSyntax}, {"0x1G", 0, api.ErrSyntax},
		{"0x1x", 0, api.ErrSyntax}, {"00x1", 0, api.ErrSyntax}, {"0x0x1", 0, api.ErrSyntax}, {"1x1", 0, api.ErrSyntax}, {"0b1", 0, api.ErrSyntax}, {"0o7", 0, api.ErrSyntax},
		{"1f", 0, api.ErrSyntax}, {"f", 0, api.ErrSyntax}, {"A", 0, api.ErrSyntax}, {"+1", 0, api.ErrSyntax}, {"-1", 0, api.ErrSyntax}, {"0x-1", 0, api.ErrSyntax},
		{"0-1", 0, api.ErrSyntax}, {"-0", 0, api.ErrSyntax}, {" 1", 0, api.ErrSyntax}, {"1 ", 0, api.ErrSyntax}, {"\t0", 0, api.ErrSyntax}, {"0\n", 0, api.ErrSyntax},
		{"0 ", 0, api.ErrSyntax}, {"0x 1", 0, api.ErrSyntax}, {"1_000", 0, api.ErrSyntax}, {"0_7", 0, api.ErrSyntax}, {"16#f", 0, api.ErrSyntax}, {"1.5", 0, api.ErrSyntax},
		{"1e3", 0, api.ErrSyntax}, {"1\x00", 0, api.ErrSyntax}, {"\x00", 0, api.ErrSyntax}, {"\xff", 0, api.ErrSyntax}, {"\u0661", 0, api.ErrSyntax},
	} {
		if n, e := Literal(c.in); n != c.n || e != c.errno {
			t.Errorf("P4.1: Literal(%q): %d %d, asked %d %d", c.in, n, e, c.n, c.errno)
		}
	}
}

// TestLiteralAll holds Literal against the document's words, for all short texts, all octets and long digits.
func TestLiteralAll(t *testing.T) {
	texts := spans("01789xXafFgG-+ ", 4)
	for c := range 256 {
		o := string([]byte{byte(c)})
		texts = append(texts, o, o+"7", "7"+o, "7"+o+"7", "0"+o, "0"+o+"7", "0x"+o, "0xa"+o, "0X"+o+"1", "00"+o, "07"+o+"7")
	}
	for _, s := range digitTexts("01234567") {
		texts = append(texts, s, "0"+s, "0x"+s)
	}
	for _, s := range digitTexts("0123456789") {
		texts = append(texts, s, "0"+s, "0X"+s)
	}
	for _, s := range digitTexts("0123456789abcdefABCDEF") {
		texts = append(texts, s, "0x"+s, "0X"+s)
	}
	for _, s := range texts {
		asked, askedErrno := literal(s)
		if n, e := Literal(s); n != asked || e != askedErrno {
			t.Fatalf("P4.1: Literal(%q): %d %d, asked %d %d", s, n, e, asked, askedErrno)
		}
	}
}

func TestPower(t *testing.T) {
	for _, c := range []struct {
		a, b, n int
		errno   api.Errno
	}{
		{2, 0, 1, api.OK}, {2, 1, 2, api.OK}, {2, 10, 1024, api.OK}, {3, 5, 243, api.OK}, {10, 18, 1000000000000000000, api.OK},
		{0, 0, 1, api.OK}, {0, 1, 0, api.OK}, {0, math.MaxInt64, 0, api.OK}, {1, math.MaxInt64, 1, api.OK}, {-5, 0, 1, api.OK},
		{-1, 2, 1, api.OK}, {-1, math.MaxInt64, -1, api.OK}, {-1, math.MaxInt64 - 1, 1, api.OK}, {-2, 3, -8, api.OK}, {-3, 4, 81, api.OK},
		{2, 62, 1 << 62, api.OK}, {2, 63, math.MinInt64, api.OK}, {2, 64, 0, api.OK}, {2, 65, 0, api.OK}, {-2, 63, math.MinInt64, api.OK}, {-2, 64, 0, api.OK},
		{10, 19, told("1"+strings.Repeat("0", 19), 10), api.OK}, {math.MinInt64, 1, math.MinInt64, api.OK}, {math.MinInt64, 2, 0, api.OK},
		{math.MaxInt64, 2, 1, api.OK}, {math.MaxInt64, 3, math.MaxInt64, api.OK},
		{2, -1, 0, api.ErrRange}, {0, -1, 0, api.ErrRange}, {1, -1, 0, api.ErrRange}, {-1, -1, 0, api.ErrRange},
		{2, math.MinInt64, 0, api.ErrRange}, {1, math.MinInt64, 0, api.ErrRange}, {math.MaxInt64, -2, 0, api.ErrRange},
	} {
		if n, e := Power(c.a, c.b); n != c.n || e != c.errno {
			t.Errorf("P4.1: Power(%d, %d): %d %d, asked %d %d", c.a, c.b, n, e, c.n, c.errno)
		}
	}
}

// TestPowerAll holds Power against numbers of any size.
func TestPowerAll(t *testing.T) {
	all := new(big.Int).Lsh(big.NewInt(1), 64)
	for _, a := range []int{0, 1, -1, 2, -2, 3, -3, 7, 10, -10, 12345, 1 << 31, 1<<31 - 1, 1 << 62, math.MaxInt64, math.MinInt64, math.MinInt64 + 1, 0x5deece66d} {
		slow := 1
		for b := range 200 {
			if n, e := Power(a, b); n != slow || e != api.OK {
				t.Fatalf("P4.1: Power(%d, %d): %d %d, asked %d", a, b, n, e, slow)
			}
			slow *= a
		}
		for _, b := range edges() {
			asked, askedErrno := 0, api.ErrRange
			if b >= 0 {
				asked, askedErrno = wrapped(new(big.Int).Exp(big.NewInt(int64(a)), big.NewInt(int64(b)), all)), api.OK
			}
			if n, e := Power(a, b); n != asked || e != askedErrno {
				t.Fatalf("P4.1: Power(%d, %d): %d %d, asked %d %d", a, b, n, e, asked, askedErrno)
			}
		}
	}
}

func TestBack(t *testing.T) {
	for _, n := range edges() {
		s := Print(n)
		if back, e := Parse(s); back != n || e != api.OK {
			t.Errorf("P4.2: Parse of %q, of %d: %d %d", s, n, back, e)
		}
		if back, e := Parse(" \t" + s + "\t "); back != n || e != api.OK {
			t.Errorf("P4.2: Parse of %q and blanks: %d %d", s, back, e)
		}
		back, e := Literal(s)
		if n >= 0 && (back != n || e != api.OK) {
			t.Errorf("P4.2: Literal of %q, of %d: %d %d", s, n, back, e)
		}
		if n < 0 && (back != 0 || e != api.ErrSyntax) {
			t.Errorf("P4.1: Literal of %q: %d %d", s, back, e)
		}
		u := uint64(n)
		for _, s := range []string{"0x" + strconv.FormatUint(u, 16), "0X" + strings.ToUpper(strconv.FormatUint(u, 16)), "0" + strconv.FormatUint(u, 8), strconv.FormatUint(u, 10)} {
			if back, e := Literal(s); back != n || e != api.OK {
				t.Errorf("P4.2: Literal of %q, of %d: %d %d", s, n, back, e)
			}
		}
	}
}

func TestMemory(t *testing.T) {
	for _, n := range []int{10, -10, 12345, math.MaxInt64, math.MinInt64} {
		first := Print(n)
		second := Print(n)
		if unsafe.StringData(first) == unsafe.StringData(second) {
			t.Errorf("P4.3: Print(%d): two answers share memory", n)
		}
		Print(-n / 3)
		if first != strconv.Itoa(n) || second != first {
			t.Errorf("P4.3: Print(%d): an answer was changed by a later call: %q", n, first)
		}
	}
	for _, s := range []string{" -5 ", "+17", "010", "0x1F", "0X1f", "0777", "", "x", "18446744073709551617"} {
		given := []byte(s)
		text := unsafe.String(unsafe.SliceData(given), len(given))
		Parse(text)
		Literal(text)
		if string(given) != s {
			t.Errorf("P4.3: what was handed in, %q, was changed: %q", s, given)
		}
	}
}

// TestAgain: answers hang on the arguments alone, whatever was asked ahead.
func TestAgain(t *testing.T) {
	for range 3 {
		if n, e := Parse("-12"); n != -12 || e != api.OK {
			t.Error("P3: Parse:", n, e)
		}
		if n, e := Parse("12 x"); n != 0 || e != api.ErrSyntax {
			t.Error("P3: Parse:", n, e)
		}
		if n, e := Literal("0x1f"); n != 31 || e != api.OK {
			t.Error("P3: Literal:", n, e)
		}
		if n, e := Literal("0x1fg"); n != 0 || e != api.ErrSyntax {
			t.Error("P3: Literal:", n, e)
		}
		if n, e := Power(3, 4); n != 81 || e != api.OK {
			t.Error("P3: Power:", n, e)
		}
		if n, e := Power(3, -4); n != 0 || e != api.ErrRange {
			t.Error("P3: Power:", n, e)
		}
		if s := Print(-300); s != "-300" {
			t.Error("P3: Print:", s)
		}
	}
}

// TestLong: long texts and great powers end soon.
func TestLong(t *testing.T) {
	begun := time.Now()
	long := strings.Repeat("7", 1<<22)
	if n, e := Parse(strings.Repeat(" ", 1<<20) + "-" + long + strings.Repeat("\t", 1<<20)); e != api.OK || n == 0 {
		t.Error("P4.1: Parse of a long text:", n, e)
	}
	if n, e := Parse(long + "x"); n != 0 || e != api.ErrSyntax {
		t.Error("P4.1: Parse of a long text that is none:", n, e)
	}
	if n, e := Literal("0x" + long); n != 0x7777777777777777 || e != api.OK {
		t.Error("P4.1: Literal of a long text:", n, e)
	}
	if n, e := Literal("0" + long); n != -1 || e != api.OK {
		t.Error("P4.1: Literal of a long text:", n, e)
	}
	if n, e := Literal(long + "g"); n != 0 || e != api.ErrSyntax {
		t.Error("P4.1: Literal of a long text that is none:", n, e)
	}
	for range 1000 {
		if n, e := Power(-1, math.MaxInt64); n != -1 || e != api.OK {
			t.Fatal("P4.1: Power:", n, e)
		}
	}
	if took := time.Since(begun); took > 5*time.Second {
		t.Error("P1: it took", took)
	}
}
