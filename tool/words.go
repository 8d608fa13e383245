package tool

import (
	"strconv"
	"strings"

	"winnower/api"
	"winnower/dfa"
	"winnower/glush"
	"winnower/lang"
	"winnower/mini"
	"winnower/regex"
)

// maxDigits is how many digits a number may have.
const maxDigits = 9

// Quote is a text without bare signs.
func Quote(s string) string {
	const digits = "0123456789abcdef"
	var b strings.Builder
	for i := range len(s) {
		if c := s[i]; c < 0x20 || c > 0x7e || c == '\\' {
			b.WriteByte('\\')
			b.WriteByte(digits[c>>4])
			b.WriteByte(digits[c&15])
		} else {
			b.WriteByte(c)
		}
	}
	return b.String()
}

// number is what all bytes of a text, as digits, tell; false, if they are no number.
func number(s string) (int, bool) {
	if s == "" || len(s) > maxDigits {
		return 0, false
	}
	n := 0
	for i := range len(s) {
		if s[i] < '0' || s[i] > '9' {
			return 0, false
		}
		n = 10*n + int(s[i]-'0')
	}
	return n, true
}

// one is an answer of one line.
func one(line string) []string { return []string{line} }

func ok(int) string { return "ok" }

func yesOrNo(yes bool) string {
	if yes {
		return "yes"
	}
	return "no"
}

func failed(e api.Errno) string { return "error " + strconv.Itoa(int(e)) }

// places is the numbers of lines.
func places(l []int) string {
	var b strings.Builder
	b.WriteString("at")
	for _, n := range l {
		b.WriteByte(' ')
		b.WriteString(strconv.Itoa(n))
	}
	return b.String()
}

// states is how many states the least automaton of an expression has.
func states(text string) string {
	m, e := least(text)
	if e != api.OK {
		return failed(e)
	}
	return strconv.Itoa(len(m.Next))
}

// least is the least automaton of an expression.
func least(text string) (api.Dfa, api.Errno) {
	r, _, e := regex.Parse(text)
	if e != api.OK {
		return api.Dfa{}, e
	}
	g, e := glush.Of(r)
	if e != api.OK {
		return api.Dfa{}, e
	}
	d, e := dfa.Build(g)
	if e != api.OK {
		return api.Dfa{}, e
	}
	return mini.Minimal(d)
}

// match tells whether what stands behind the first blank is a text of the expression ahead of it.
func match(rest string) string {
	re, text, _ := strings.Cut(rest, " ")
	r, _, e := regex.Parse(re)
	if e != api.OK {
		return failed(e)
	}
	return yesOrNo(lang.Match(r, text))
}
