package printf

import (
	"slices"
	"strings"
	"testing"
	"time"
	"unsafe"
)

// shares: does a lie in b's memory? Texts of one octet are left out, as Go keeps one of each.
func shares(a, b string) bool {
	if len(a) < 2 || len(b) < 2 {
		return false
	}
	at, from := uintptr(unsafe.Pointer(unsafe.StringData(a))), uintptr(unsafe.Pointer(unsafe.StringData(b)))
	return at >= from && at < from+uintptr(len(b)) || from >= at && from < at+uintptr(len(a))
}

// apart asks that no two of the texts lie in one memory.
func apart(t *testing.T, what string, l ...string) {
	t.Helper()
	for i, a := range l {
		for _, b := range l[i+1:] {
			if shares(a, b) {
				t.Errorf("P9.3: %s: %q and %q are in one memory", what, a, b)
			}
		}
	}
}

// TestMemory: P9.3, an answer is in memory of its own, also where it is what was handed in.
func TestMemory(t *testing.T) {
	for _, args := range [][]string{list("-n", "aaaa"), list("aaaa"), list("-n", "aa", "bb"), list("-n", "", "aaaa"), nil} {
		apart(t, "Echo", append(args, Echo(args), Echo(args))...)
	}
	for _, s := range list("aaaa", `aa\nbb`, `\q`, "aaaa\\", `\\aaaa`) {
		apart(t, "Escape", s, Escape(s), Escape(s))
	}
	for _, format := range list("%s", "%b", "%2s", "%-2s", "%02s", "aaaa", "aaaa%%", "%saaaa", "aaaa%s", "aaaa%", "%d", "%x", "%o", "%c%c") {
		for _, args := range [][]string{list("1234"), list("", "1234"), list("12", "34"), nil} {
			one, _ := Format(format, args)
			two, _ := Format(format, args)
			apart(t, "Format", append(args, format, one, two)...)
		}
	}
}

// TestGiven: P9.3, what is handed in stays as it was, with the room behind it.
func TestGiven(t *testing.T) {
	l := append(make([]string, 0, 8), "-n", "12", `\t`, "c")
	was := slices.Clone(l[:8])
	texts := strings.Join(l, ",")
	Echo(l)
	Echo(l[:2])
	for _, format := range list("%s", "%b", "%s%s%s%s%s%s", "%d%", "%%", "") {
		Format(format, l)
		Format(format, l[:1])
		Conversions(format)
	}
	Escape(l[2])
	if !slices.Equal(l[:8], was) || strings.Join(l, ",") != texts {
		t.Errorf("P9.3: what was handed in was changed: %q", l[:8])
	}
}

// TestAgain: P3, an answer hangs on what was handed in, not on what was asked ahead.
func TestAgain(t *testing.T) {
	for range 3 {
		formatted(t, "%d%", list("x"), "0", 1)
		formatted(t, "%05d %s;", list("-3", "a", "4"), "-0003 a;00004 ;", 0)
		if s := Echo(list("-n", "a")) + Echo(nil) + Escape(`\t`); s != "a\n\t" {
			t.Errorf("P3: %q", s)
		}
	}
}

// TestLarge: P1, what is large ends soon.
func TestLarge(t *testing.T) {
	from := time.Now()
	many := slices.Repeat(list("a"), 1<<20)
	if s := Echo(many); len(s) != 2<<20 {
		t.Error("P9.1: many arguments:", len(s))
	}
	if s := Escape(strings.Repeat(`\n\0\101\`, 1<<19)); len(s) != 3<<19 {
		t.Error("P9.1: a long text:", len(s))
	}
	if s, n := Format("%2s", many); len(s) != 2<<20 || n != 0 {
		t.Error("P9.2: many arguments:", len(s), n)
	}
	if s, n := Format(strings.Repeat("%s", 1<<20), append(many, "b")); len(s) != 1<<20+1 || n != 0 {
		t.Error("P9.2: many conversions:", len(s), n)
	}
	if s, n := Format(strings.Repeat("a", 1<<20)+"%", many); len(s) != 1<<20 || n != 1 {
		t.Error("P9.2: a long format with a fault:", len(s), n)
	}
	if s, n := Format(strings.Repeat("%%", 1<<20), many); len(s) != 1<<20 || n != 0 {
		t.Error("P9.2: a long format without a conversion:", len(s), n)
	}
	if s, n := Format(strings.Repeat(`\0`, 1<<16)+"%s", many); len(s) != 1<<20 || n != 0 {
		t.Error("P9.2: a long format that tells little:", len(s), n)
	}
	if n := Conversions(strings.Repeat("%999d", 1<<20)); n != 1<<20 {
		t.Error("P9.2: many conversions:", n)
	}
	if s, n := Format("%d", list(strings.Repeat("0", 1<<24)+"7")); s != "7" || n != 0 {
		t.Error("P9.2: a long number:", s, n)
	}
	if d := time.Since(from); d > 10*time.Second {
		t.Error("P1: what is large takes", d)
	}
}
