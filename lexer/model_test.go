package lexer_test

import (
	"math/rand"
	"slices"
	"strconv"
	"strings"
	"testing"

	"winnower/api"
	"winnower/lang"
	"winnower/lexer"
	"winnower/regex"
	"winnower/rules"
)

// Tokens, put together by hand.

func tok(kind int, text string) api.Token { return api.Token{Kind: kind, Text: text} }

func stamp(s string) api.Token  { return tok(api.TokStamp, s) }
func ip(s string) api.Token     { return tok(api.TokIP, s) }
func mac(s string) api.Token    { return tok(api.TokMac, s) }
func hex(s string) api.Token    { return tok(api.TokHex, s) }
func number(s string) api.Token { return tok(api.TokNumber, s) }
func quoted(s string) api.Token { return tok(api.TokQuoted, s) }
func word(s string) api.Token   { return tok(api.TokWord, s) }
func blank(s string) api.Token  { return tok(api.TokBlank, s) }
func other(s string) api.Token  { return tok(api.TokOther, s) }

// others is each byte of a text as a token of kind other.
func others(s string) []api.Token {
	var l []api.Token
	for i := range len(s) {
		l = append(l, other(s[i:i+1]))
	}
	return l
}

// lex is the tokens of a line that is not too long.
func lex(t *testing.T, x *lexer.Lexer, line string) []api.Token {
	t.Helper()
	l, e := x.Lex(line)
	if e != api.OK {
		t.Fatalf("Lex(%q): error %d", line, e)
	}
	return l
}

// wants holds the tokens of a line, and that they are the line.
func wants(t *testing.T, x *lexer.Lexer, line string, want ...api.Token) {
	t.Helper()
	got, e := x.Lex(line)
	if e != api.OK || !slices.Equal(got, want) {
		t.Errorf("Lex(%q): error %d, %v, want %v", line, e, tell(got), tell(want))
	}
	if lexer.Join(got...) != line {
		t.Errorf("Join of Lex(%q) is %q", line, lexer.Join(got...))
	}
}

// tell is tokens in words.
func tell(l []api.Token) string {
	var words []string
	for _, t := range l {
		words = append(words, rules.Name(t.Kind)+" "+strconv.Quote(t.Text))
	}
	return strings.Join(words, ", ")
}

// patterns is the expressions of all kinds.
func patterns(t *testing.T) []api.Re {
	t.Helper()
	var l []api.Re
	for kind := range api.Kinds {
		r, at, e := regex.Parse(rules.Pattern(kind))
		if e != api.OK {
			t.Fatalf("Parse of %q: error %d at %d", rules.Pattern(kind), e, at)
		}
		l = append(l, r)
	}
	return l
}

// model is a line's tokens by chapter 7: each is the longest text that stands there, of the lowest kind.
func model(l []api.Re, line string) []api.Token {
	var list []api.Token
	for at := 0; at < len(line); {
		best, end := -1, at
		for kind, r := range l {
			if to := lang.Longest(r, line, at); to > end {
				best, end = kind, to
			}
		}
		list = append(list, tok(best, line[at:end]))
		at = end
	}
	return list
}

// anyLine is a line by chance, of pieces that tokens begin with, go on with, and break off at.
func anyLine(r *rand.Rand) string {
	pieces := []string{
		"2026-11-19T23:31:00", "2026-11-19", "T23:31", "127.0.0.1", "1.2.3", ".", "4", "00:11:22:33:44:55", "aa:bb:cc", ":", "dd", "0x", "0xff", "1f", "g", "-", "-3.5", "3.", "12", "\"", "\\", "\"a b\"", "\"\\\"", "up", "_x1", "Z", " ", "\t", "  ", "\n", "é", "\xff", "\x00", "=", "[", "]",
	}
	var b strings.Builder
	for range r.Intn(12) {
		b.WriteString(pieces[r.Intn(len(pieces))])
	}
	line := b.String()
	if r.Intn(4) == 0 && line != "" {
		at := r.Intn(len(line))
		line = line[:at] + string([]byte{byte(r.Intn(256))}) + line[at+1:]
	}
	return line[:min(len(line), api.MaxLine)]
}
