package part_test

import (
	"math/rand"
	"slices"
	"strconv"
	"strings"
	"testing"

	"winnower/api"
)

// Tokens and templates, put together by hand.

func tok(kind int, text string) api.Token { return api.Token{Kind: kind, Text: text} }

// words is tokens of kind word.
func words(texts ...string) []api.Token {
	var l []api.Token
	for _, s := range texts {
		l = append(l, tok(api.TokWord, s))
	}
	return l
}

// template is parts of texts; of `*` it is Any.
func template(texts ...string) api.Template {
	var t api.Template
	for _, s := range texts {
		t = append(t, api.Part{Any: s == "*", Text: strings.TrimPrefix(s, "*")})
	}
	return t
}

// odd is an Any that has a text: none that is answered has one.
func odd(text string) api.Part { return api.Part{Any: true, Text: text} }

// tell is a template in words.
func tell(t api.Template) string {
	var l []string
	for _, p := range t {
		s := strconv.Quote(p.Text)
		if p.Any {
			s = "any" + s
		}
		l = append(l, s)
	}
	return "[" + strings.Join(l, " ") + "]"
}

// wants holds a template.
func wants(t *testing.T, what any, got, want api.Template) {
	t.Helper()
	if tell(got) != tell(want) {
		t.Errorf("%v: got %s, want %s", what, tell(got), tell(want))
	}
}

// joined is the texts of tokens.
func joined(tokens []api.Token) string {
	s := ""
	for _, token := range tokens {
		s += token.Text
	}
	return s
}

// varies tells whether a kind of tokens is Any.
func varies(kind int) bool {
	return slices.Contains([]int{api.TokStamp, api.TokIP, api.TokMac, api.TokHex, api.TokNumber, api.TokQuoted}, kind)
}

// fits tells in plain words whether tokens are of a template.
func fits(t api.Template, tokens []api.Token) bool {
	if len(t) != len(tokens) {
		return false
	}
	for i := range t {
		if !t[i].Any && t[i].Text != tokens[i].Text {
			return false
		}
	}
	return true
}

// anyTokens is tokens by chance, of few texts.
func anyTokens(r *rand.Rand, most int) []api.Token {
	l := make([]api.Token, r.Intn(most+1))
	for i := range l {
		l[i] = tok(r.Intn(api.Kinds+2)-1, []string{"a", "b", "a ", "", "\xff"}[r.Intn(5)])
	}
	return l
}

// anyTemplate is a template by chance, of few texts; some Any have a text.
func anyTemplate(r *rand.Rand, most int) api.Template {
	t := make(api.Template, r.Intn(most+1))
	for i := range t {
		t[i] = []api.Part{{Text: "a"}, {Text: "b"}, {Text: ""}, {Any: true}, {Any: true}, odd("a"), odd("b")}[r.Intn(7)]
	}
	return t
}
