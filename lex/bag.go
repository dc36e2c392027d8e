package lex

import "cowrie/api"

// bag is parts on their way. What was put in last may be a text that is still open: texts behind it that are quoted as it is are one with it.
type bag struct {
	parts  []api.Part
	open   bool
	text   []byte
	quoted bool
}

// put puts in a text.
func (b *bag) put(s string, quoted bool) {
	if b.quoted != quoted {
		b.close()
	}
	b.open, b.quoted = true, quoted
	b.text = append(b.text, s...)
}

// add puts in parts. A text with an Op stays by itself.
func (b *bag) add(l ...api.Part) {
	for _, p := range l {
		if p.Kind == text && p.Op == "" {
			b.put(p.Text, p.Quoted)
			continue
		}
		b.close()
		b.parts = append(b.parts, p)
	}
}

// close makes a part of the text that is open.
func (b *bag) close() {
	if b.open {
		b.parts = append(b.parts, api.Part{Kind: text, Text: string(b.text), Quoted: b.quoted})
	}
	b.open, b.text = false, b.text[:0]
}

// taken: all that was put in.
func (b *bag) taken() []api.Part {
	b.close()
	return b.parts
}
