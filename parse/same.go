package parse

import (
	"slices"

	"cowrie/api"
	"cowrie/arith"
)

func sameSums(a, b []api.Sum) bool {
	return slices.EqualFunc(a, b, arith.Same)
}

func samePart(a, b api.Part) bool {
	return a.Kind == b.Kind && a.Text == b.Text && a.Name == b.Name && a.Op == b.Op && a.Quoted == b.Quoted &&
		slices.EqualFunc(a.Word, b.Word, samePart) &&
		slices.EqualFunc(a.More, b.More, samePart) &&
		sameSums(a.Sums, b.Sums) &&
		slices.EqualFunc(a.List, b.List, Same)
}

func sameAssign(a, b api.Assign) bool {
	return a.Name == b.Name && a.Op == b.Op && a.Array == b.Array &&
		SameWord(a.Word, b.Word) &&
		sameSums(a.Sums, b.Sums) &&
		slices.EqualFunc(a.List, b.List, SameWord)
}

func sameRedir(a, b api.Redir) bool {
	return a.FD == b.FD && a.Op == b.Op && SameWord(a.Word, b.Word)
}

func sameCase(a, b api.Case) bool {
	return slices.EqualFunc(a.Pats, b.Pats, SameWord) && Same(a.Body, b.Body)
}

func sameCond(a, b api.Cond) bool {
	return a.Op == b.Op && slices.EqualFunc(a.Words, b.Words, SameWord) && slices.EqualFunc(a.Kids, b.Kids, sameCond)
}
