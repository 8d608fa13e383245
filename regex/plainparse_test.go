package regex_test

import (
	"slices"
	"strings"

	"winnower/api"
)

// plainParser goes through a text byte by byte, in states; the brackets that are open stand in a list.
type plainParser struct {
	state    func(c byte) bool // takes a byte; false: the text can't go on with it
	open     []frame
	atom     api.Re // what may take a sign
	has      bool   // whether there is one
	taken    func(b byte)
	value    int
	low      int
	set      [256]bool
	turned   bool
	first    byte
	spanAt   int
	at       int
	faultAt  int  // of a fault that was met ahead of at; -1: of none
	complete bool // whether the text may end here
}

// frame is what stands in a bracket: the alternatives that are done, and the row that goes on.
type frame struct {
	done []api.Re
	row  []api.Re
}

// plainParse is what a text of at most 1024 bytes is, whatever its size; or where its error is met, and false.
func plainParse(s string) (api.Re, int, bool) {
	p := &plainParser{open: []frame{{}}, faultAt: -1, complete: true}
	p.state = p.outside
	for p.at = 0; p.at < len(s); p.at++ {
		ok := p.state(s[p.at])
		if p.faultAt >= 0 {
			return api.Re{}, p.faultAt, false
		}
		if !ok {
			return api.Re{}, p.at, false
		}
	}
	if !p.complete || len(p.open) != 1 {
		return api.Re{}, len(s), false
	}
	return p.close(), 0, true
}

func fold(kind int, l []api.Re) api.Re {
	if len(l) == 0 {
		return api.Re{}
	}
	if len(l) == 1 {
		return l[0]
	}
	return api.Re{Kind: kind, Kids: l}
}

// settle lays the atom that took no sign, or took one, into its row.
func (p *plainParser) settle() {
	if p.has {
		top := &p.open[len(p.open)-1]
		top.row = append(top.row, p.atom)
	}
	p.has = false
}

// begin has an atom that may take a sign.
func (p *plainParser) begin(r api.Re) {
	p.settle()
	p.atom, p.has = r, true
	p.state, p.complete = p.outside, true
}

func (p *plainParser) endRow() {
	p.settle()
	top := &p.open[len(p.open)-1]
	top.done = append(top.done, fold(api.ReSeq, top.row))
	top.row = nil
}

func (p *plainParser) close() api.Re {
	p.endRow()
	last := len(p.open) - 1
	r := fold(api.ReAlt, p.open[last].done)
	p.open = p.open[:last]
	return r
}

func (p *plainParser) signed(low, high int) bool {
	if p.has {
		p.atom = rep(p.atom, low, high)
		p.settle()
	}
	p.state, p.complete = p.outside, true
	return true
}

func (p *plainParser) outside(c byte) bool {
	switch c {
	case '|':
		p.endRow()
	case '(':
		p.settle()
		p.open = append(p.open, frame{})
	case ')':
		if len(p.open) == 1 {
			return false
		}
		p.begin(p.close())
	case '*', '+', '?', '{':
		if !p.has {
			return false
		}
		switch c {
		case '*':
			p.signed(0, -1)
		case '+':
			p.signed(1, -1)
		case '?':
			p.signed(0, 1)
		default:
			p.state, p.complete = p.lowFirst, false
		}
	case '.':
		p.begin(all())
	case '[':
		p.settle()
		p.set, p.turned = [256]bool{}, false
		p.state, p.complete = p.setBegin, false
	default:
		return p.oneByte(c, func(b byte) { p.begin(one(b)) })
	}
	return true
}

// oneByte takes the first byte of a byte; taken gets what it means, when it is whole.
func (p *plainParser) oneByte(c byte, taken func(b byte)) bool {
	if c == '\\' {
		p.taken, p.state, p.complete = taken, p.stroke, false
		return true
	}
	if slices.Contains([]byte{'.', '|', '*', '+', '?', '(', ')', '[', ']', '{', '}', '^', '-'}, c) {
		return false
	}
	taken(c)
	return true
}

func (p *plainParser) stroke(c byte) bool {
	switch c {
	case 'n':
		p.taken(0x0a)
	case 't':
		p.taken(0x09)
	case 'r':
		p.taken(0x0d)
	case 'x':
		p.value = 0
		p.state = p.sixteens
	case '.', '|', '*', '+', '?', '(', ')', '[', ']', '{', '}', '\\', '^', '-':
		p.taken(c)
	default:
		return false
	}
	return true
}

func (p *plainParser) sixteens(c byte) bool {
	n := strings.Index("0123456789abcdef", string(rune(c)))
	if n < 0 {
		return false
	}
	p.value = 16*p.value + n
	p.state = p.sixteensLast
	return true
}

func (p *plainParser) sixteensLast(c byte) bool {
	if !p.sixteens(c) {
		return false
	}
	p.taken(byte(p.value))
	return true
}

func digit(c byte) bool { return '0' <= c && c <= '9' }

func (p *plainParser) lowFirst(c byte) bool {
	p.low = int(c) - '0'
	p.state = p.lowSecond
	return digit(c)
}

func (p *plainParser) lowSecond(c byte) bool {
	if digit(c) {
		p.low = 10*p.low + int(c) - '0'
		p.state = p.lowDone
		return true
	}
	return p.lowDone(c)
}

func (p *plainParser) lowDone(c byte) bool {
	switch c {
	case ',':
		p.state = p.comma
		return true
	case '}':
		return p.low >= 1 && p.low <= 32 && p.signed(p.low, p.low)
	}
	return false
}

func (p *plainParser) comma(c byte) bool {
	if c == '}' {
		return p.low <= 32 && p.signed(p.low, -1)
	}
	p.value = int(c) - '0'
	p.state = p.highSecond
	return digit(c)
}

func (p *plainParser) highSecond(c byte) bool {
	if digit(c) {
		p.value = 10*p.value + int(c) - '0'
		p.state = p.highDone
		return true
	}
	return p.highDone(c)
}

func (p *plainParser) highDone(c byte) bool {
	return c == '}' && p.value > 0 && p.value <= 32 && p.value >= p.low && p.signed(p.low, p.value)
}

func (p *plainParser) setBegin(c byte) bool {
	if c == '^' {
		p.turned = true
		p.state = p.spanFirst
		return true
	}
	return p.spanFirst(c)
}

func (p *plainParser) spanFirst(c byte) bool {
	return p.oneByte(c, func(b byte) {
		p.first = b
		p.set[b] = true
		p.state = p.spanMore
	})
}

func (p *plainParser) spanMore(c byte) bool {
	if c == '-' {
		p.state = p.spanSecond
		return true
	}
	return p.spanDone(c)
}

func (p *plainParser) spanSecond(c byte) bool {
	p.spanAt = p.at
	return p.oneByte(c, func(b byte) {
		for n := int(p.first); n <= int(b); n++ {
			p.set[n] = true
		}
		p.state = p.spanDone
		if b < p.first {
			p.faultAt = p.spanAt
		}
	})
}

func (p *plainParser) spanDone(c byte) bool {
	if c != ']' {
		return p.spanFirst(c)
	}
	var s api.Set
	for b, in := range p.set {
		if in != p.turned {
			s[b/64] |= 1 << (b % 64)
		}
	}
	if s == (api.Set{}) {
		return false
	}
	p.begin(of(s))
	return true
}
