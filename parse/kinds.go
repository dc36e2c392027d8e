package parse

// The kinds of commands.
const (
	none = iota
	simple
	sequence
	both
	either
	opposite
	pipeline
	subshell
	group
	branch
	while
	until
	each
	choice
	function
	question
	sum
	counting
	local
)

// The kinds of parts that are asked for here.
const (
	text = iota + 1
	_
	list
	_
	file
)
