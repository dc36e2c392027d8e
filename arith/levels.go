package arith

// The levels of the grammar, from the loosest on; none is that of a text that is no operator.
const (
	none = iota
	listing
	assigning
	choosing
	either
	both
	anyBit
	oddBit
	allBits
	equal
	ordered
	shifted
	added
	times
	power
	ahead
	behind
	whole
)

// levelOf: the level of an expression with that operator; whole of one without.
func levelOf(op string) int {
	switch op {
	case "":
		return whole
	case ",":
		return listing
	case "=", "*=", "/=", "%=", "+=", "-=", "<<=", ">>=", "&=", "^=", "|=":
		return assigning
	case "?:":
		return choosing
	case "||":
		return either
	case "&&":
		return both
	case "|":
		return anyBit
	case "^":
		return oddBit
	case "&":
		return allBits
	case "==", "!=":
		return equal
	case "<", "<=", ">", ">=":
		return ordered
	case "<<", ">>":
		return shifted
	case "+", "-":
		return added
	case "*", "/", "%":
		return times
	case "**":
		return power
	case "!", "~", "neg", "pre++", "pre--":
		return ahead
	case "post++", "post--":
		return behind
	}
	return none
}

// kidsAt: how many kids an expression of that level has.
func kidsAt(level int) int {
	switch level {
	case choosing:
		return 3
	case ahead, behind:
		return 1
	case whole:
		return 0
	}
	return 2
}
