package regex

import (
	"strconv"

	"winnower/api"
	"winnower/class"
)

// digits is the digits of sixteen.
const digits = "0123456789abcdef"

// Print is an expression as a text.
func Print(r api.Re) string {
	text, _ := textOf(r)
	return text
}

// appendRe lays the text of an expression whose nodes are formed.
func appendRe(b []byte, r api.Re) []byte {
	switch r.Kind {
	case api.ReClass:
		b = appendSet(b, r.Set)
	case api.ReSeq:
		for _, kid := range r.Kids {
			b = appendKid(b, kid, kid.Kind == api.ReSeq || kid.Kind == api.ReAlt || kid.Kind == api.ReEmpty)
		}
	case api.ReAlt:
		for i, kid := range r.Kids {
			if i > 0 {
				b = append(b, '|')
			}
			b = appendKid(b, kid, kid.Kind == api.ReAlt)
		}
	case api.ReRepeat:
		kid := r.Kids[0]
		b = appendKid(b, kid, kid.Kind != api.ReClass)
		b = appendTimes(b, r.Low, r.High)
	}
	return b
}

func appendKid(b []byte, kid api.Re, grouped bool) []byte {
	if !grouped {
		return appendRe(b, kid)
	}
	b = append(b, '(')
	b = appendRe(b, kid)
	return append(b, ')')
}

func appendSet(b []byte, s api.Set) []byte {
	rows := class.Ranges(s)
	switch class.Count(s) {
	case 1:
		return appendByte(b, rows[0][0])
	case 256:
		return append(b, '.')
	}
	b = append(b, '[')
	for _, row := range rows {
		b = appendByte(b, row[0])
		if row[0] != row[1] {
			b = append(b, '-')
			b = appendByte(b, row[1])
		}
	}
	return append(b, ']')
}

func appendByte(b []byte, c byte) []byte {
	if '0' <= c && c <= '9' || 'A' <= c && c <= 'Z' || 'a' <= c && c <= 'z' {
		return append(b, c)
	}
	return append(b, '\\', 'x', digits[c>>4], digits[c&15])
}

// appendTimes lays the first sign that says so many times.
func appendTimes(b []byte, low, high int) []byte {
	switch {
	case low == 0 && high == noEnd:
		return append(b, '*')
	case low == 1 && high == noEnd:
		return append(b, '+')
	case low == 0 && high == 1:
		return append(b, '?')
	}
	b = append(b, '{')
	b = strconv.AppendInt(b, int64(low), 10)
	if low != high {
		b = append(b, ',')
		if high != noEnd {
			b = strconv.AppendInt(b, int64(high), 10)
		}
	}
	return append(b, '}')
}
