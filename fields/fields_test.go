package fields

import (
	"math"
	"math/rand"
	"slices"
	"strings"
	"testing"

	"cowrie/api"
)

// TestFields: P8.1 and P8.3, what the document's words ask of fields; quoted octets stand between { and }.
func TestFields(t *testing.T) {
	for i, c := range []struct {
		l    []Piece
		ifs  string
		want []string
	}{
		{list(split("a b")), " ", []string{"a", "b"}}, // the document's example
		{list(split("  a \t\n b  ")), " \t\n", []string{"a", "b"}},
		{list(split("a,,b")), ",", []string{"a", "", "b"}},
		{list(split("a,b,")), ",", []string{"a", "b"}},
		{list(split("a,b,,")), ",", []string{"a", "b", ""}},
		{list(split(",a")), ",", []string{"", "a"}},
		{list(split(",")), ",", []string{""}},
		{list(split(" a , b ")), " ,", []string{"a", "b"}},
		{list(split("a , , b")), " ,", []string{"a", "", "b"}},
		{list(split(" , a")), " ,", []string{"", "a"}},
		{list(split("a ,")), " ,", []string{"a"}},
		{list(split("a ,,")), " ,", []string{"a", ""}},
		{list(split("a, ,")), " ,", []string{"a", ""}},
		{list(split("a\x00b")), "\x00", []string{"a", "b"}},
		{list(split("a\xffb\xfec")), "\xff\xfe", []string{"a", "b", "c"}},
		// what IFS has not is no end
		{list(split("a b\tc\nd")), "\t", []string{"a b", "c\nd"}},
		{list(split("a b,c")), "", []string{"a b,c"}},
		{list(split(" ")), "", []string{" "}},
		{list(split("a\rb\vc")), " \t\n", []string{"a\rb\vc"}},
		{list(split("a\rb")), "\r", []string{"a", "b"}},
		{list(split("a b b")), "bb  b", []string{"a", ""}},
		// quoted octets and pieces that are not split
		{list(split("a{ }b{,}c d")), " ,", []string{"a{ }b{,}c", "d"}},
		{list(split("{ }")), " ", []string{"{ }"}},
		{list(whole("a b,c")), " ,", []string{"a b,c"}},
		{list(whole(" {,}")), " ,", []string{" {,}"}},
		// pieces one behind the other
		{list(split("a"), split("b")), " ", []string{"ab"}},
		{list(split("a b"), whole("c d"), split(" e")), " ", []string{"a", "bc d", "e"}},
		{list(split("a "), whole(" b")), " ", []string{"a", " b"}},
		{list(split("a "), split(" , b")), " ,", []string{"a", "b"}},
		{list(split("a "), split(","), split(",")), " ,", []string{"a", ""}},
		{list(split("a "), whole(""), split(",b")), " ,", []string{"a", "b"}},
		{list(split(""), split("")), " ", nil},
		{list(whole("")), " ", nil},
		{list(split("  ")), " ", nil},
		// Kept pieces
		{list(kept(whole(""))), " ", []string{""}},
		{list(kept(split(""))), " ", []string{""}},
		{list(kept(whole("")), kept(whole(""))), " ", []string{""}},
		{list(kept(whole("")), split("a b")), " ", []string{"a", "b"}},
		{list(kept(whole("")), split(" a")), " ", []string{"", "a"}},
		{list(split("a "), kept(whole(""))), " ", []string{"a", ""}},
		{list(split("a "), kept(whole("")), split(" b")), " ", []string{"a", "", "b"}},
		{list(kept(split(" a"))), " ", []string{"", "a"}},
		{list(kept(split(",a"))), ",", []string{"", "a"}},
		{list(kept(split("a "))), " ", []string{"a"}},
		{list(kept(whole("")), split(",")), ",", []string{""}},
		{list(split("a ,"), kept(whole("")), split(",b")), " ,", []string{"a", "", "b"}},
		{list(split("a "), kept(whole("")), split(",b")), " ,", []string{"a", "", "b"}},
		// Cuts
		{list(cut(whole("a")), whole("b")), "", []string{"a", "b"}},
		{list(cut(whole("a b")), cut(whole(""))), " ", []string{"a b", ""}},
		{list(cut(whole(""))), " ", []string{""}},
		{list(cut(kept(whole("")))), " ", []string{""}},
		{list(cut(split("a ")), split("b")), " ", []string{"a", "", "b"}},
		{list(cut(split("a,")), split("b")), ",", []string{"a", "", "b"}},
		{list(cut(split("a")), split(",b")), ",", []string{"a", "", "b"}},
		{list(cut(split("a")), split(" b")), " ", []string{"a", "b"}},
		{list(cut(split("a ")), split(",b")), " ,", []string{"a", "", "", "b"}},
		{list(cut(split(" ")), cut(split(" "))), " ", []string{"", ""}},
		// none
		{nil, " ", nil},
		{list(), "", nil},
		{list(Piece{}), " ", nil},
	} {
		l := Fields(c.l, c.ifs)
		var want [][]api.Char
		for _, s := range c.want {
			want = append(want, chars(s))
		}
		if told(l) != told(want) || len(l) != len(want) {
			t.Errorf("P8.1: %d: Fields(%s, %q): %s, want %s", i, plain(c.l), c.ifs, told(l), told(want))
		}
	}
}

// holds Fields against the slow one.
func holds(t *testing.T, l []Piece, ifs string) {
	t.Helper()
	got, want := Fields(l, ifs), slowFields(l, ifs)
	if told(got) != told(want) || len(got) != len(want) {
		t.Errorf("P8.1: Fields(%s, %q): %s, want %s", plain(l), ifs, told(got), told(want))
	}
	if again := Fields(l, ifs); told(again) != told(got) {
		t.Errorf("P3: Fields(%s, %q): %s, then %s", plain(l), ifs, told(got), told(again))
	}
}

// TestFieldsAll: P8.1, all small ways in which octets, quoted ones, Kept pieces and Cuts follow each other.
func TestFieldsAll(t *testing.T) {
	for _, s := range spans("o wmkc", 6) {
		var l []Piece
		for i := range len(s) {
			switch s[i] {
			case 'o':
				l = append(l, split("o"))
			case ' ':
				l = append(l, split("{ }"))
			case 'w':
				l = append(l, split(" "))
			case 'm':
				l = append(l, split(","))
			case 'k':
				l = append(l, kept(whole("")))
			case 'c':
				l = append(l, cut(whole("")))
			}
		}
		holds(t, l, " ,")
	}
}

// TestFieldsAny: P8.1 and P8.3, pieces by chance.
func TestFieldsAny(t *testing.T) {
	r := rand.New(rand.NewSource(8))
	ifs := []string{"", " ", ",", " \t\n", " ,", ",:", "\t:", " \t\n,:", "\x00 ", "\xff\n", "ab"}
	for i := range 40000 {
		holds(t, anyPieces(r), ifs[i%len(ifs)])
	}
	for i := range 2000 {
		l := anyPieces(r)
		for j := range l {
			if i%2 == 0 {
				l[j].Split = false
			}
			for k := range l[j].Chars {
				l[j].Chars[k].Q = l[j].Chars[k].Q || i%2 > 0
			}
			l[j].Cut = false
		}
		if f := Fields(l, " \t\n,:ab"); len(f) > 1 || strings.Join(Texts(f), "") != Join(l) {
			t.Errorf("P8.3: quoted pieces were cut: Fields(%s): %s", plain(l), told(f))
		}
	}
}

// TestEveryOctet: P8.1, each octet within IFS, quoted or not, and out of it.
func TestEveryOctet(t *testing.T) {
	for i := range 256 {
		s := string([]byte{byte(i)})
		x, a := api.Char{C: byte(i)}, api.Char{C: 'a' ^ byte(i)&1}
		for _, c := range [][]api.Char{{a, x, a}, {x, a}, {a, x}, {x}, {a, x, x, a}, {{C: byte(i), Q: true}, a}} {
			for _, ifs := range []string{"", s, s + s, string([]byte{byte(i) ^ 1})} {
				holds(t, list(Piece{Chars: c, Split: true}), ifs)
				holds(t, list(Piece{Chars: c}), ifs)
			}
		}
	}
}

// TestJoin: P8.2, all octets of all pieces, whatever the pieces are.
func TestJoin(t *testing.T) {
	for _, c := range []struct {
		l    []Piece
		want string
	}{
		{nil, ""},
		{list(Piece{}, kept(whole("")), cut(whole(""))), ""},
		{list(split(" a b "), kept(whole("{c d}")), cut(split("\x00\xff")), whole("e")), " a b c d\x00\xffe"},
	} {
		if s := Join(c.l); s != c.want {
			t.Errorf("P8.2: Join(%s): %q, want %q", plain(c.l), s, c.want)
		}
	}
	r := rand.New(rand.NewSource(82))
	for range 2000 {
		l := anyPieces(r)
		var want []byte
		for _, p := range l {
			for _, c := range p.Chars {
				want = append(want, c.C)
			}
		}
		if s := Join(l); s != string(want) || Join(l) != s {
			t.Errorf("P8.2: Join(%s): %q, want %q", plain(l), s, want)
		}
	}
}

// TestTexts: P8.2, each field's octets, and a text of each field.
func TestTexts(t *testing.T) {
	for _, c := range []struct {
		l    [][]api.Char
		want []string
	}{
		{nil, nil},
		{[][]api.Char{}, nil},
		{[][]api.Char{nil}, []string{""}},
		{[][]api.Char{nil, chars("a{b}"), {}, chars("\x00\xff{ }")}, []string{"", "ab", "", "\x00\xff "}},
		{[][]api.Char{chars("a"), chars("a")}, []string{"a", "a"}},
	} {
		if l := Texts(c.l); !slices.Equal(l, c.want) {
			t.Errorf("P8.2: Texts(%s): %q, want %q", told(c.l), l, c.want)
		}
	}
}

// TestWords: P8.2, what the document names.
func TestWords(t *testing.T) {
	for _, c := range []struct {
		s    string
		n    int
		want []string
	}{
		{"a b c", 3, []string{"a", "b", "c"}},
		{"a b c", 4, []string{"a", "b", "c"}},
		{"a b c", math.MaxInt, []string{"a", "b", "c"}},
		{"a b c", 2, []string{"a", "b c"}},
		{"a b c", 1, []string{"a b c"}},
		{"a b c", 0, nil},
		{"a b c", -1, nil},
		{"a b c", math.MinInt, nil},
		{" \t a \t\t b  \t c\t ", 2, []string{"a", "b  \t c"}},
		{" \t a \t\t b  \t c\t ", 1, []string{"a \t\t b  \t c"}},
		{"a\tb", 2, []string{"a", "b"}},
		{"", 1, nil},
		{"", 0, nil},
		{" \t ", 5, nil},
		{"a\nb\rc\vd", 5, []string{"a\nb\rc\vd"}},
		{"\n", 5, []string{"\n"}},
		{"\x00 \xff", 5, []string{"\x00", "\xff"}},
		{"\u00a0\u2003 x", 5, []string{"\u00a0\u2003", "x"}},
	} {
		if l := Words(c.s, c.n); !slices.Equal(l, c.want) {
			t.Errorf("P8.2: Words(%q, %d): %q, want %q", c.s, c.n, l, c.want)
		}
	}
	for _, s := range spans("a\xff \t\n", 6) {
		for n := -1; n < 7; n++ {
			if l := Words(s, n); !slices.Equal(l, slowWords(s, n)) || !slices.Equal(Words(s, n), l) {
				t.Errorf("P8.2: Words(%q, %d): %q, want %q", s, n, l, slowWords(s, n))
			}
		}
	}
}
