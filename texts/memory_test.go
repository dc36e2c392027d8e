package texts

import (
	"slices"
	"strings"
	"sync"
	"testing"
	"time"
	"unsafe"
)

// shares: does a lie in b's memory? Texts of one octet are left out, as Go keeps one of each.
func shares(a, b string) bool {
	if len(a) < 2 || len(b) < 2 {
		return false
	}
	at, from := uintptr(unsafe.Pointer(unsafe.StringData(a))), uintptr(unsafe.Pointer(unsafe.StringData(b)))
	return at >= from && at < from+uintptr(len(b)) || from >= at && from < at+uintptr(len(a))
}

// apart asks that no two of the texts lie in one memory.
func apart(t *testing.T, what string, l ...string) {
	t.Helper()
	for i, a := range l {
		for _, b := range l[i+1:] {
			if shares(a, b) {
				t.Errorf("P11.3: %s: %q and %q are in one memory", what, a, b)
			}
		}
	}
}

// answers: what all calls make of a text and two sets.
func answers(s, from, to string) []string {
	set, _ := Set(from)
	old, _ := Translate(s, from, to)
	rest, _ := Delete(s, from)
	l := list(set, old, rest, Uniq(s), Rev(s), Head(s, 1), Head(s, 2), Head(s, 99), Tail(s, 1), Tail(s, 2), Tail(s, 99), Cut(s, 'a', 1), Cut(s, ':', 1), Cut(s, ':', 2))
	for flags := range 8 {
		l = append(l, Sort(s, flags&1 > 0, flags&2 > 0, flags&4 > 0))
	}
	return l
}

// TestMemory: P11.3, an answer is in memory of its own, also where it is what was handed in.
func TestMemory(t *testing.T) {
	for _, s := range list("aaaa\n", "aaaa", "aa:bb:cc\n", "aa\nbb\ncc", "aa\nbb\n", "12\n34\n", "bb\nbb\naa\n", "") {
		for _, from := range list("", "xyz", "abc", "a-c", `\n`, "a-z") {
			for _, to := range list("", "xyz", "abc", from) {
				text, set, put := strings.Clone(s), strings.Clone(from), strings.Clone(to)
				apart(t, "all calls", slices.Concat(list(text, set, put), answers(text, set, put), answers(text, set, put))...)
				if text != s || set != from || put != to {
					t.Errorf("P11.3: what was handed in was changed: %q, %q, %q", text, set, put)
				}
			}
		}
	}
}

// TestKept: P11.3, P3: an answer hangs on what is handed in now, not on what was ahead, nor on other goroutines.
func TestKept(t *testing.T) {
	texts := list("b\na\nb\n", "10\n9\n", "", "a:b\nc", "\n\n")
	sets := list("a-c", "", "c-a", `\n`, "A-C")
	var first [][]string
	ask := func(do func([]string)) {
		for _, s := range texts {
			for _, from := range sets {
				for _, to := range sets {
					do(answers(s, from, to))
				}
			}
		}
	}
	ask(func(l []string) { first = append(first, l) })
	again := func() {
		at := 0
		ask(func(l []string) {
			if !slices.Equal(l, first[at]) {
				t.Errorf("P3: first %q, then %q", first[at], l)
			}
			at++
		})
	}
	var all sync.WaitGroup
	for range 8 {
		all.Go(again)
	}
	all.Wait()
}

// TestLarge: P1, what is large ends soon.
func TestLarge(t *testing.T) {
	from := time.Now()
	many, wide := strings.Repeat("a:b\n", 1<<20), strings.Repeat("a:", 1<<21)
	for i, got := range []int{
		len(Head(many, 1<<19)), len(Tail(many, 1<<19)), len(Uniq(many)), len(Rev(many)), len(Cut(many, ':', 2)), len(Sort(many, true, true, true)), len(Sort(many, true, false, true)),
		len(Head(wide, 1)), len(Tail(wide, 1)), len(Uniq(wide)), len(Rev(wide)), len(Cut(wide, ':', 1<<21)), len(Cut(wide, ':', 1<<40)), len(Sort(wide, false, false, true)),
	} {
		if want := []int{2 << 20, 2 << 20, 4, 4 << 20, 2 << 20, 4, 4 << 20, 4 << 20, 4 << 20, 4<<20 + 1, 4<<20 + 1, 2, 1, 4<<20 + 1}[i]; got != want {
			t.Errorf("P11.1: a large text, number %d: %d octets, want %d", i, got, want)
		}
	}
	if lines, words, octets := Count(many); lines != 1<<20 || words != 1<<20 || octets != 4<<20 {
		t.Error("P11.1: Count of a large text:", lines, words, octets)
	}
	long := strings.Repeat("0", 1<<22)
	if s := Sort(strings.Repeat(long+"2\n", 2)+long+"1\n-"+long+"9", false, true, true); s != "-"+long+"9\n"+long+"1\n"+long+"2\n" {
		t.Error("P11.1: long numbers:", len(s))
	}
	if s, ok := Set(strings.Repeat("\x00-\xff", 1<<16)); len(s) != 1<<24 || !ok {
		t.Error("P11.2: many spans:", len(s), ok)
	}
	if s, ok := Translate(many, strings.Repeat("a-z", 1<<20), strings.Repeat("A-Z", 1<<20)); s != strings.ToUpper(many) || !ok {
		t.Error("P11.2: Translate of a large text:", len(s), ok)
	}
	if s, ok := Delete(many, strings.Repeat("a-z:", 1<<20)); len(s) != 1<<20 || !ok {
		t.Error("P11.2: Delete of a large text:", len(s), ok)
	}
	if d := time.Since(from); d > 10*time.Second {
		t.Error("P1: what is large takes", d)
	}
}
