package fields

import (
	"strings"

	"cowrie/api"
)

// each does something with all elements of a list.
func each[T any](l []T, do func(T)) {
	for _, x := range l {
		do(x)
	}
}

// A text is made of octets, quoted or not.
type text struct{ strings.Builder }

func (t *text) add(c api.Char) {
	t.WriteByte(c.C)
}

// What an octet is to IFS.
const (
	other = iota
	white
	mark
)

// kindsOf tells of each octet what it is to ifs.
func kindsOf(ifs string) [256]byte {
	var kinds [256]byte
	for i := range len(ifs) {
		switch ifs[i] {
		case ' ', '\t', '\n':
			kinds[ifs[i]] = white
		default:
			kinds[ifs[i]] = mark
		}
	}
	return kinds
}

// A cutter goes over the octets of pieces and keeps the fields that have ended.
type cutter struct {
	kinds  [256]byte
	fields [][]api.Char
	field  []api.Char // the one under way
	open   bool       // a field is under way, be it without octets
	spent  bool       // a white octet ended the last field, and a mark behind it would belong to that end
}

func (c *cutter) piece(p Piece) {
	if p.Kept {
		c.open = true
	}
	if p.Split {
		each(p.Chars, c.cut)
	} else {
		each(p.Chars, c.put)
	}
	if p.Cut {
		c.end()
	}
}

// cut takes an octet at which a field may end.
func (c *cutter) cut(x api.Char) {
	kind := c.kinds[x.C]
	switch {
	case x.Q || kind == other:
		c.put(x)
	case kind == white && c.open:
		c.end()
		c.spent = true
	case kind == mark && c.spent && !c.open:
		c.spent = false
	case kind == mark:
		c.end()
	}
}

func (c *cutter) put(x api.Char) {
	c.field = append(c.field, x)
	c.open = true
}

// end makes the field under way, or an empty one, one of the fields.
func (c *cutter) end() {
	c.fields = append(c.fields, c.field)
	c.field, c.open, c.spent = nil, false, false
}
