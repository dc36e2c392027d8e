package test

// What is answered.
const (
	yes = iota
	no
	senseless
)

// What may be at a path, as tree.Kind tells it.
const (
	nothing = iota
	file
	directory
)

// kind is what an operator asks.
type kind int

// The kinds: first those that ask of one text, then those that ask of two.
const (
	unknown kind = iota

	filled
	empty
	there
	plain
	folder
	heavy

	same
	other
	equal
	unequal
	less
	atMost
	more
	atLeast
)

// kindOf: what the operator asks.
func kindOf(op string) kind {
	switch op {
	case "-n":
		return filled
	case "-z":
		return empty
	case "-e":
		return there
	case "-f":
		return plain
	case "-d":
		return folder
	case "-s":
		return heavy
	case "=":
		return same
	case "!=":
		return other
	case "-eq":
		return equal
	case "-ne":
		return unequal
	case "-lt":
		return less
	case "-le":
		return atMost
	case "-gt":
		return more
	case "-ge":
		return atLeast
	}
	return unknown
}

// compared: is it so of the two numbers?
func compared(k kind, m, n int) bool {
	switch k {
	case equal:
		return m == n
	case unequal:
		return m != n
	case less:
		return m < n
	case atMost:
		return m <= n
	case more:
		return m > n
	}
	return m >= n
}

// answer: what is answered if it is so, or not.
func answer(so bool) int {
	if so {
		return yes
	}
	return no
}

// opposite: what is answered of what is not so; what can't be asked, can't be asked so either.
func opposite(a int) int {
	switch a {
	case yes:
		return no
	case no:
		return yes
	}
	return senseless
}
