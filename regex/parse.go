package regex

import (
	"strings"

	"winnower/api"
	"winnower/class"
)

// signs is the bytes that mean something else than themselves.
const signs = `.|*+?()[]{}\^-`

// Parse is a text as an expression.
func Parse(s string) (api.Re, int, api.Errno) {
	if len(s) > maxText {
		return api.Re{}, 0, api.ErrLong
	}
	p := parser{text: s}
	r, ok := p.alternatives()
	// Alternatives end before what they can't take: at the end, or at a bracket that was not opened.
	if !ok || p.at < len(s) {
		return api.Re{}, p.at, api.ErrForm
	}
	if !Is(r) {
		return api.Re{}, 0, api.ErrLong
	}
	return r, 0, api.OK
}

// parser takes a text from the left. Where one of its calls answers false, at is the byte at which the error was met, and nothing more is taken.
type parser struct {
	text string
	at   int
}

// stands tells whether a byte is the next one.
func (p *parser) stands(b byte) bool {
	return p.at < len(p.text) && p.text[p.at] == b
}

// take takes a byte, if it is the next one.
func (p *parser) take(b byte) bool {
	ok := p.stands(b)
	if ok {
		p.at++
	}
	return ok
}

func (p *parser) alternatives() (api.Re, bool) {
	var rows []api.Re
	for {
		row, ok := p.row()
		if !ok {
			return api.Re{}, false
		}
		rows = append(rows, row)
		if !p.take('|') {
			return ofKids(api.ReAlt, rows), true
		}
	}
}

func (p *parser) row() (api.Re, bool) {
	var atoms []api.Re
	for p.at < len(p.text) && !p.stands('|') && !p.stands(')') {
		atom, ok := p.atom()
		if ok {
			atom, ok = p.times(atom)
		}
		if !ok {
			return api.Re{}, false
		}
		atoms = append(atoms, atom)
	}
	return ofKids(api.ReSeq, atoms), true
}

func (p *parser) atom() (api.Re, bool) {
	switch {
	case p.take('.'):
		return ofSet(class.Range(0, 255)), true
	case p.take('('):
		return p.group()
	case p.take('['):
		s, ok := p.set()
		return ofSet(s), ok
	}
	b, ok := p.oneByte()
	return ofSet(class.Of(b)), ok
}

// group is what stands between brackets, of which the first is taken.
func (p *parser) group() (api.Re, bool) {
	r, ok := p.alternatives()
	return r, ok && p.take(')')
}

// times is an atom with the sign behind it, if there is one.
func (p *parser) times(atom api.Re) (api.Re, bool) {
	switch {
	case p.take('*'):
		return repeated(atom, 0, noEnd), true
	case p.take('+'):
		return repeated(atom, 1, noEnd), true
	case p.take('?'):
		return repeated(atom, 0, 1), true
	case p.take('{'):
		low, high, ok := p.numbers()
		return repeated(atom, low, high), ok
	}
	return atom, true
}

// numbers is what stands in a {}, of which the { is taken.
func (p *parser) numbers() (low, high int, ok bool) {
	low, ok = p.number()
	high = low
	if ok && p.take(',') {
		high = noEnd
		if !p.stands('}') {
			high, ok = p.number()
		}
	}
	// What may not be is told at the }, not behind it.
	ok = ok && p.stands('}') && mayRepeat(low, high)
	return low, high, ok && p.take('}')
}

// number is one or two digits.
func (p *parser) number() (int, bool) {
	n, from := 0, p.at
	for p.at < len(p.text) && p.at < from+2 && '0' <= p.text[p.at] && p.text[p.at] <= '9' {
		n = 10*n + int(p.text[p.at]-'0')
		p.at++
	}
	return n, p.at > from
}

// set is what stands between [ and ], of which the [ is taken.
func (p *parser) set() (api.Set, bool) {
	var s api.Set
	turned := p.take('^')
	for more := true; more; more = !p.stands(']') {
		some, ok := p.span()
		if !ok {
			return api.Set{}, false
		}
		s = class.Join(s, some)
	}
	if turned {
		s = class.Not(s)
	}
	// What is empty is told at the ], not behind it.
	return s, class.Count(s) > 0 && p.take(']')
}

// span is a byte, or all from one to another.
func (p *parser) span() (api.Set, bool) {
	low, ok := p.oneByte()
	if !ok || !p.take('-') {
		return class.Of(low), ok
	}
	from := p.at
	high, ok := p.oneByte()
	if ok && high < low {
		p.at = from
		return api.Set{}, false
	}
	return class.Range(low, high), ok
}

// oneByte is a byte, as itself or behind a stroke.
func (p *parser) oneByte() (byte, bool) {
	if p.take('\\') {
		return p.stroked()
	}
	if p.at == len(p.text) || strings.IndexByte(signs, p.text[p.at]) >= 0 {
		return 0, false
	}
	p.at++
	return p.text[p.at-1], true
}

// stroked is the byte that is meant behind a stroke.
func (p *parser) stroked() (byte, bool) {
	switch {
	case p.take('n'):
		return '\n', true
	case p.take('t'):
		return '\t', true
	case p.take('r'):
		return '\r', true
	case p.take('x'):
		high, ok := p.digit()
		if !ok {
			return 0, false
		}
		low, ok := p.digit()
		return high<<4 | low, ok
	}
	if p.at == len(p.text) || strings.IndexByte(signs, p.text[p.at]) < 0 {
		return 0, false
	}
	p.at++
	return p.text[p.at-1], true
}

// digit is a digit of sixteen.
func (p *parser) digit() (byte, bool) {
	if p.at == len(p.text) {
		return 0, false
	}
	n := strings.IndexByte(digits, p.text[p.at])
	if n < 0 {
		return 0, false
	}
	p.at++
	return byte(n), true
}
