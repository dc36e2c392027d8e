package utils

import (
	"strings"

	"cowrie/api"
	"cowrie/number"
	"cowrie/octets"
)

// What a utility ends with that is not done.
const (
	failed  = 1
	misused = 2
)

// fault ends a utility: nothing that it told, or did to the tree, is left.
type fault struct {
	status int
	errno  api.Errno
}

// must: else the utility is not used as it can be.
func must(ok bool) {
	if !ok {
		panic(fault{status: misused})
	}
}

// fits: else there is no room for what the utility makes.
func fits(ok bool) {
	if !ok {
		panic(fault{status: failed, errno: api.ErrFull})
	}
}

// words are arguments, of which those that are left were not taken yet.
type words struct{ left []string }

// next takes a word.
func (w *words) next() string {
	must(len(w.left) > 0)
	word := w.left[0]
	w.left = w.left[1:]
	return word
}

// taken takes the next word, if it is that one; is it?
func (w *words) taken(word string) bool {
	if len(w.left) == 0 || w.left[0] != word {
		return false
	}
	w.next()
	return true
}

// end: no words may be left.
func (w *words) end() {
	must(len(w.left) == 0)
}

// letters takes the options that come next, and answers their letters, all of which are to be known.
func (w *words) letters(known string) string {
	var all strings.Builder
	for len(w.left) > 0 && len(w.left[0]) > 1 && w.left[0][0] == '-' {
		option := w.next()[1:]
		must(strings.Trim(option, known) == "")
		all.WriteString(option)
	}
	return all.String()
}

// count takes a number that is written in a few digits.
func (w *words) count() int {
	word := w.next()
	must(len(word) <= 6 && octets.Digits(word))
	n, _ := number.Parse(word)
	return n
}

// number takes a number of any size and sign.
func (w *words) number() int {
	n, e := number.Parse(w.next())
	must(e == api.OK)
	return n
}
