package fields

import (
	"slices"
	"strings"
	"testing"
	"time"
	"unsafe"

	"cowrie/api"
)

// shares: does a lie in b's memory? Texts of one octet are left out, as Go keeps one of each.
func shares(a, b string) bool {
	if len(a) < 2 || len(b) < 2 {
		return false
	}
	at, from := uintptr(unsafe.Pointer(unsafe.StringData(a))), uintptr(unsafe.Pointer(unsafe.StringData(b)))
	return at >= from && at < from+uintptr(len(b)) || from >= at && from < at+uintptr(len(a))
}

// apart asks that no two of the texts lie in one memory.
func apart(t *testing.T, what string, l ...string) {
	t.Helper()
	for i, a := range l {
		for _, b := range l[i+1:] {
			if shares(a, b) {
				t.Errorf("P8.4: %s: %q and %q are in one memory", what, a, b)
			}
		}
	}
}

// given are pieces in memory of their own, with room behind in which an answer might be put.
func given() []Piece {
	l := make([]Piece, 0, 16)
	for _, p := range list(split("aa bb,cc"), kept(whole("{dd}")), cut(whole("ee")), whole("ff"), split(" gg ")) {
		p.Chars = slices.Grow(p.Chars, 16)
		l = append(l, p)
	}
	return l
}

// spoil writes over all that a list of octets has and the room behind it.
func spoil(l []api.Char) {
	l = l[:cap(l)]
	for i := range l {
		l[i] = api.Char{C: '#', Q: true}
	}
}

// TestMemoryOfFields: P8.4, no field shares memory with another one, with the pieces or with another answer.
func TestMemoryOfFields(t *testing.T) {
	for _, ifs := range []string{"", " ", " ,"} {
		pieces := given()
		one, two := Fields(pieces, ifs), Fields(pieces, ifs)
		want := told(slowFields(given(), ifs))
		for i := range one {
			spoil(one[i])
			if told(one[i+1:]) != told(two[i+1:]) {
				t.Errorf("P8.4: two fields are in one memory: %s", told(one))
			}
		}
		_ = append(one, chars("#"))
		if plain(pieces) != plain(given()) || told(two) != want {
			t.Errorf("P8.4: Fields(.., %q) shares memory: %s, %s", ifs, plain(pieces), told(two))
		}
		for _, p := range pieces {
			if slices.ContainsFunc(p.Chars[len(p.Chars):cap(p.Chars)], func(c api.Char) bool { return c != api.Char{} }) {
				t.Error("P8.4: Fields wrote behind a piece")
			}
		}
		for _, p := range pieces {
			spoil(p.Chars)
		}
		if told(two) != want {
			t.Errorf("P8.4: Fields keeps the pieces: %s", told(two))
		}
	}
}

// TestMemoryOfTexts: P8.4, Join, Words and Texts.
func TestMemoryOfTexts(t *testing.T) {
	pieces := given()
	apart(t, "Join", Join(pieces), Join(pieces))
	for _, s := range []string{"aaaa", "  aaaa\t", "aa bb cc", " aa  bb\tcc "} {
		for n := range 5 {
			text := string([]byte(s))
			one, two := Words(text, n), Words(text, n)
			apart(t, "Words", append(append([]string{text}, one...), two...)...)
			for i := range one {
				one[i] = "#"
			}
			if !slices.Equal(two, slowWords(s, n)) || text != s {
				t.Errorf("P8.4: Words(%q, %d) are in one memory: %q", s, n, two)
			}
		}
	}
	l := [][]api.Char{chars("aa"), chars("aa"), chars("b{bb}")}
	one, two := Texts(l), Texts(l)
	apart(t, "Texts", append(one, two...)...)
	one[0] = "#"
	if told(l) != told([][]api.Char{chars("aa"), chars("aa"), chars("b{bb}")}) || two[0] != "aa" {
		t.Errorf("P8.4: Texts shares memory: %s, %q", told(l), two)
	}
	if pieces[0].Chars[0].C != 'a' || plain(pieces) != plain(given()) {
		t.Error("P8.4: Join changed the pieces:", plain(pieces))
	}
}

// TestLarge: P1, what is large ends soon.
func TestLarge(t *testing.T) {
	from := time.Now()
	many := strings.Repeat("a ,", 1<<20)
	if l := Fields(list(split(many)), " ,"); len(l) != 1<<20 || len(Texts(l)) != 1<<20 {
		t.Error("P8.1: many fields:", len(l))
	}
	if l := Fields(list(split(many), whole(many)), ""); len(l) != 1 || len(l[0]) != 6<<20 {
		t.Error("P8.1: a long field:", len(l))
	}
	if l := Fields(slices.Repeat(list(cut(whole("a"))), 1<<20), strings.Repeat("b", 1<<24)); len(l) != 1<<20 {
		t.Error("P8.1: many pieces:", len(l))
	}
	if s := Join(slices.Repeat(list(whole("a")), 1<<22)); len(s) != 1<<22 {
		t.Error("P8.2: many pieces:", len(s))
	}
	if l := Words(many, 1<<30); len(l) != 1<<20+1 {
		t.Error("P8.2: many words:", len(l))
	}
	if l := Words(strings.Repeat(" \t", 1<<23)+"a"+strings.Repeat(" \t", 1<<23)+"b", 2); len(l) != 2 {
		t.Error("P8.2: many blanks:", len(l))
	}
	if d := time.Since(from); d > 10*time.Second {
		t.Error("P1: what is large takes", d)
	}
}
