package printf

import (
	"strings"

	"cowrie/ansi"
	"cowrie/number"
)

const (
	marks  = `\abfnrtv` // behind a backslash they tell what they tell to ansi
	octals = "01234567"
	digits = octals + "89"
)

// reader goes over a text.
type reader struct {
	source string
	at     int
}

func (r *reader) more() bool {
	return r.at < len(r.source)
}

// run takes the octets that come next, as long as they are some of those, but at most so many.
func (r *reader) run(of string, most int) string {
	from := r.at
	for r.more() && r.at-from < most && strings.IndexByte(of, r.source[r.at]) >= 0 {
		r.at++
	}
	return r.source[from:r.at]
}

// literal takes an escape, or else an octet, and answers what it tells.
func (r *reader) literal() string {
	from := r.at
	r.at++
	if r.source[from] != '\\' {
		return r.source[from:r.at]
	}
	if r.run(marks, 1) != "" {
		octet, _, _ := ansi.Decode(r.source[from:r.at])
		return octet
	}
	if told := r.run(octals, 3); told != "" {
		return octal(told)
	}
	return `\`
}

// octal: the octet of those digits; of 0 nothing.
func octal(told string) string {
	n, _ := number.Literal("0" + told)
	if n%256 == 0 {
		return ""
	}
	return string([]byte{byte(n % 256)})
}

// conversion takes an argument, and tells it behind a text of its own.
type conversion struct {
	field
	ahead  string
	letter byte
}

// plan is what a format asks for: conversions, and a text behind them.
type plan struct {
	conversions []conversion
	behind      string
	faulty      bool // more stands in the format, but can't be told
}

// planner is on its way over a format; what it has written is no part of its plan yet.
type planner struct {
	reader
	strings.Builder
	plan
}

// planned reads a format, up to a fault.
func planned(format string) plan {
	p := planner{reader: reader{source: format}}
	for p.more() && !p.faulty {
		if p.run("%", 1) != "" {
			p.percent()
		} else {
			p.WriteString(p.literal())
		}
	}
	p.behind = p.String()
	return p.plan
}

// percent reads what stands behind a %.
func (p *planner) percent() {
	if p.run("%", 1) != "" {
		p.WriteByte('%')
		return
	}
	flag := p.run("-0", 1)
	width, _ := number.Parse(p.run(digits, 3)) // 0 of no digits
	letter := p.run("sbdcxo", 1)
	if letter == "" {
		p.faulty = true
		return
	}
	zeros := flag == "0" && strings.Contains("dxo", letter)
	f := field{width: width, left: flag == "-", zeros: zeros}
	p.conversions = append(p.conversions, conversion{field: f, ahead: p.String(), letter: letter[0]})
	p.Reset()
}
