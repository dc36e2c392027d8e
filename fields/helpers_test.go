package fields

import (
	"fmt"
	"math/rand"
	"regexp"
	"strings"

	"cowrie/api"
)

// chars makes octets of a text; those between { and } are quoted.
func chars(s string) []api.Char {
	var l []api.Char
	quoted := false
	for i := range len(s) {
		switch s[i] {
		case '{':
			quoted = true
		case '}':
			quoted = false
		default:
			l = append(l, api.Char{C: s[i], Q: quoted})
		}
	}
	return l
}

func split(s string) Piece { return Piece{Chars: chars(s), Split: true} }
func whole(s string) Piece { return Piece{Chars: chars(s)} }

func kept(p Piece) Piece {
	p.Kept = true
	return p
}

func cut(p Piece) Piece {
	p.Cut = true
	return p
}

func list(l ...Piece) []Piece { return l }

// shape tells octets so that no two lists are told alike: those that are quoted stand behind a backslash.
func shape(l []api.Char) string {
	var b strings.Builder
	for _, c := range l {
		if c.Q {
			b.WriteByte('\\')
		}
		b.WriteString(fmt.Sprintf("%q", string([]byte{c.C})))
	}
	return b.String()
}

// told tells fields so that no two lists are told alike.
func told(l [][]api.Char) string {
	var all []string
	for _, f := range l {
		all = append(all, "["+shape(f)+"]")
	}
	return strings.Join(all, " ")
}

// plain tells pieces so that a fault can be made again.
func plain(l []Piece) string {
	var all []string
	for _, p := range l {
		all = append(all, fmt.Sprintf("{%s split %t kept %t cut %t}", shape(p.Chars), p.Split, p.Kept, p.Cut))
	}
	return strings.Join(all, " ")
}

// oneField is the document's words as a rule over signs: o an octet, k a Kept piece, w white, m a mark, c a Cut; what is left out, a field, its end.
var oneField = regexp.MustCompile(`^w*(?:([ok]+)(?:w+m|w|m|c|$)|m|c)`)

// slowFields reads the signs of all pieces by that rule.
func slowFields(l []Piece, ifs string) [][]api.Char {
	var signs []byte
	var octets []api.Char
	sign := func(s byte, c api.Char) {
		signs = append(signs, s)
		octets = append(octets, c)
	}
	for _, p := range l {
		if p.Kept {
			sign('k', api.Char{})
		}
		for _, c := range p.Chars {
			switch {
			case !p.Split || c.Q || strings.IndexByte(ifs, c.C) < 0:
				sign('o', c)
			case strings.IndexByte(" \t\n", c.C) >= 0:
				sign('w', c)
			default:
				sign('m', c)
			}
		}
		if p.Cut {
			sign('c', api.Char{})
		}
	}
	var all [][]api.Char
	for {
		at := oneField.FindSubmatchIndex(signs)
		if at == nil {
			return all
		}
		var field []api.Char
		for i := at[2]; i >= 0 && i < at[3]; i++ {
			if signs[i] == 'o' {
				field = append(field, octets[i])
			}
		}
		all = append(all, field)
		signs, octets = signs[at[1]:], octets[at[1]:]
	}
}

var wordEnd = regexp.MustCompile(`[ \t]+`)

// slowWords: a text's words by the document's words.
func slowWords(s string, n int) []string {
	s = regexp.MustCompile(`^[ \t]+|[ \t]+$`).ReplaceAllString(s, "")
	if s == "" || n < 1 {
		return nil
	}
	return wordEnd.Split(s, min(n, len(s)))
}

// spans: every text of those octets that is at most so long.
func spans(octets string, most int) []string {
	all := []string{""}
	last := all
	for range most {
		var next []string
		for _, s := range last {
			for i := range len(octets) {
				next = append(next, s+octets[i:i+1])
			}
		}
		all = append(all, next...)
		last = next
	}
	return all
}

// anyPieces: pieces by chance, of octets that meet IFS often.
func anyPieces(r *rand.Rand) []Piece {
	var l []Piece
	for range r.Intn(6) {
		p := Piece{Split: r.Intn(4) > 0, Kept: r.Intn(4) == 0, Cut: r.Intn(4) == 0}
		for range r.Intn(7) {
			p.Chars = append(p.Chars, api.Char{C: " \t\n,:ab\x00\xff"[r.Intn(9)], Q: r.Intn(6) == 0})
		}
		l = append(l, p)
	}
	return l
}
