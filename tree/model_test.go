package tree_test

import (
	"fmt"
	"math/rand"
	"slices"
	"strconv"
	"strings"
	"testing"

	"winnower/api"
	"winnower/lexer"
	"winnower/part"
	"winnower/tree"
)

// Tokens and templates, put together by hand.

func tok(kind int, text string) api.Token { return api.Token{Kind: kind, Text: text} }

// words is tokens of kind word; of `#` and a text a number.
func words(texts ...string) []api.Token {
	var l []api.Token
	for _, s := range texts {
		kind := api.TokWord
		if strings.HasPrefix(s, "#") {
			kind = api.TokNumber
		}
		l = append(l, tok(kind, strings.TrimPrefix(s, "#")))
	}
	return l
}

// split is the words of a text, parted by blanks that are left out.
func split(s string) []api.Token { return words(strings.Fields(s)...) }

// template is parts of the words of a text; of `*` it is Any.
func template(s string) api.Template {
	var t api.Template
	for _, word := range strings.Fields(s) {
		t = append(t, api.Part{Any: word == "*", Text: strings.TrimPrefix(word, "*")})
	}
	return t
}

// lex is a line's tokens.
func lex(t *testing.T, x *lexer.Lexer, line string) []api.Token {
	t.Helper()
	l, e := x.Lex(line)
	if e != api.OK {
		t.Fatalf("Lex(%q): error %d", line, e)
	}
	return l
}

// plain is a tree in plain words.
type plain struct {
	templates []api.Template
	leaves    []plainLeaf
}

type plainLeaf struct {
	count  int
	keys   [2]string
	groups []int
}

func newPlain() *plain { return &plain{templates: []api.Template{{{Any: true}}}} }

// assign is what Assign tells, by chapter 15's words, one after the other.
func (p *plain) assign(tokens []api.Token) api.Assigned {
	joined := ""
	for _, token := range tokens {
		joined += token.Text
	}
	over := api.Assigned{ID: 0, Vars: []string{joined}}
	n := len(tokens)
	if n == 0 || n > 64 {
		return over
	}
	var keys [2]string
	for i := range min(n, 2) {
		keys[i] = "*"
		if slices.Contains([]int{api.TokWord, api.TokBlank, api.TokOther}, tokens[i].Kind) {
			keys[i] = tokens[i].Text
		}
	}
	at := slices.IndexFunc(p.leaves, func(l plainLeaf) bool { return l.count == n && l.keys == keys })
	if at < 0 {
		if len(p.leaves) >= 32 || len(p.templates) >= 64 {
			return over
		}
		p.leaves = append(p.leaves, plainLeaf{n, keys, []int{len(p.templates)}})
		return p.fresh(part.Of(tokens...), tokens)
	}
	leaf := &p.leaves[at]
	best := 0
	for i, id := range leaf.groups {
		if part.Alike(p.templates[id], tokens...) > part.Alike(p.templates[leaf.groups[best]], tokens...) {
			best = i
		}
	}
	old := p.templates[leaf.groups[best]]
	if 2*part.Alike(old, tokens...) < n {
		if len(leaf.groups) >= 8 || len(p.templates) >= 64 {
			return over
		}
		leaf.groups = append(leaf.groups, len(p.templates))
		return p.fresh(part.Of(tokens...), tokens)
	}
	if part.Fits(old, tokens...) {
		return api.Assigned{ID: leaf.groups[best], Vars: part.Vars(old, tokens...)}
	}
	if len(p.templates) >= 64 {
		return over
	}
	leaf.groups[best] = len(p.templates)
	return p.fresh(part.Merge(old, tokens...), tokens)
}

// fresh adds a template, and is what Assign tells by it.
func (p *plain) fresh(t api.Template, tokens []api.Token) api.Assigned {
	p.templates = append(p.templates, t)
	return api.Assigned{ID: len(p.templates) - 1, Vars: part.Vars(t, tokens...)}
}

// num is a number as bytes, by chapter 1's words.
func num(n int) []byte {
	if n < 128 {
		return []byte{byte(n)}
	}
	return append([]byte{byte(n%128 + 128)}, num(n/128)...)
}

// nums is numbers as bytes.
func nums(l ...int) []byte {
	var b []byte
	for _, n := range l {
		b = append(b, num(n)...)
	}
	return b
}

// row is a text as bytes, with its length.
func row(s string) []byte { return append(num(len(s)), s...) }

// encode is the tree as bytes, by chapter 15's words.
func (p *plain) encode() []byte {
	b := nums(len(p.templates))
	for _, t := range p.templates[1:] {
		b = append(b, nums(len(t))...)
		for _, part := range t {
			if part.Any {
				b = append(b, 1)
			} else {
				b = append(append(b, 0), row(part.Text)...)
			}
		}
	}
	b = append(b, nums(len(p.leaves))...)
	for _, l := range p.leaves {
		b = slices.Concat(b, nums(l.count), row(l.keys[0]), row(l.keys[1]), nums(len(l.groups)), nums(l.groups...))
	}
	return b
}

// taker takes what encode lays; ok is false, if it met what is not laid so.
type taker struct {
	b  []byte
	ok bool
}

func (r *taker) num() int {
	for size := 1; size <= min(len(r.b), 9); size++ {
		if r.b[size-1] >= 128 {
			continue
		}
		n := 0
		for _, c := range slices.Backward(r.b[:size]) {
			n = n*128 + int(c%128)
		}
		if n > 1<<62 || len(num(n)) != size {
			break
		}
		r.b = r.b[size:]
		return n
	}
	r.ok = false
	return -1
}

// in is a number within bounds.
func (r *taker) in(low, high int) int {
	n := r.num()
	if !r.ok || n < low || n > high {
		r.ok = false
		return 0
	}
	return n
}

func (r *taker) text(low int) string {
	n := r.in(low, 256)
	if n > len(r.b) {
		r.ok = false
	}
	if !r.ok {
		return ""
	}
	s := string(r.b[:n])
	r.b = r.b[n:]
	return s
}

// decode is a tree of bytes in plain words; false, if they are none by the looks that chapter 15 names.
func decode(b []byte) (*plain, bool) {
	r, p := &taker{b, true}, newPlain()
	for n := r.in(1, 64); n > 1 && r.ok; n-- {
		var t api.Template
		for k := r.in(1, 64); k > 0 && r.ok; k-- {
			if r.in(0, 1) == 1 {
				t = append(t, api.Part{Any: true})
			} else {
				t = append(t, api.Part{Text: r.text(1)})
			}
		}
		p.templates = append(p.templates, t)
	}
	for n := r.in(0, 32); n > 0 && r.ok; n-- {
		l := plainLeaf{count: r.num()}
		l.keys[0] = r.text(0)
		l.keys[1] = r.text(0)
		for k := r.in(1, 8); k > 0 && r.ok; k-- {
			l.groups = append(l.groups, r.in(1, len(p.templates)-1))
		}
		p.leaves = append(p.leaves, l)
	}
	return p, r.ok && len(r.b) == 0 && p.mayBe()
}

// mayBe tells whether no leaf is there twice, no template has two groups, and each has as many parts as its leaf's count.
func (p *plain) mayBe() bool {
	used, seen := map[int]bool{}, map[string]bool{}
	for _, l := range p.leaves {
		key := fmt.Sprintf("%d %q", l.count, l.keys)
		if seen[key] {
			return false
		}
		seen[key] = true
		for _, id := range l.groups {
			if used[id] || len(p.templates[id]) != l.count {
				return false
			}
			used[id] = true
		}
	}
	return true
}

// tell is all that a tree tells, in words.
func tell(t *tree.Tree) string {
	var b strings.Builder
	fmt.Fprintf(&b, "%d templates, %d leaves, %x", t.Len(), t.Leaves(), t.Encode())
	for id := -1; id <= t.Len(); id++ {
		made, ok := t.Template(id)
		fmt.Fprintf(&b, "; %v %s", ok, tellTemplate(made))
	}
	return b.String()
}

func tellTemplate(t api.Template) string {
	var l []string
	for _, p := range t {
		s := strconv.Quote(p.Text)
		if p.Any {
			s = "any" + s
		}
		l = append(l, s)
	}
	return "[" + strings.Join(l, " ") + "]"
}

// wantsTemplates holds all templates of a tree but number 0, and that there are no others.
func wantsTemplates(t *testing.T, what any, x *tree.Tree, want ...string) {
	t.Helper()
	if x.Len() != len(want)+1 {
		t.Errorf("%v: %d templates, want %d", what, x.Len(), len(want)+1)
	}
	for i, s := range append([]string{"*"}, want...) {
		if got, ok := x.Template(i); !ok || tellTemplate(got) != tellTemplate(template(s)) {
			t.Errorf("%v: template %d is %s, %v, want %s", what, i, tellTemplate(got), ok, s)
		}
	}
}

// wantsPlain holds a tree against one in plain words.
func wantsPlain(t *testing.T, what any, x *tree.Tree, p *plain) {
	t.Helper()
	if x.Len() != len(p.templates) || x.Leaves() != len(p.leaves) || string(x.Encode()) != string(p.encode()) {
		t.Errorf("%v: %d templates, %d leaves, %x, want %d, %d, %x", what, x.Len(), x.Leaves(), x.Encode(), len(p.templates), len(p.leaves), p.encode())
	}
	for id, want := range p.templates {
		if got, ok := x.Template(id); !ok || tellTemplate(got) != tellTemplate(want) {
			t.Errorf("%v: template %d is %s, %v, want %s", what, id, tellTemplate(got), ok, tellTemplate(want))
		}
	}
}

// wants holds what Assign tells: a number, and vars.
func wants(t *testing.T, x *tree.Tree, tokens []api.Token, id int, vars ...string) {
	t.Helper()
	if got := x.Assign(tokens...); got.ID != id || !slices.Equal(got.Vars, vars) {
		t.Errorf("Assign(%v) = %d %q, want %d %q", tokens, got.ID, got.Vars, id, vars)
	}
}

// wantsOverflow holds that Assign overflows, and changes nothing.
func wantsOverflow(t *testing.T, x *tree.Tree, tokens []api.Token) {
	t.Helper()
	before := tell(x)
	wants(t, x, tokens, 0, lexer.Join(tokens...))
	if after := tell(x); after != before {
		t.Errorf("Assign(%v) overflows, and %s became %s", tokens, before, after)
	}
}

// anyTokens is tokens by chance, of few texts, so that many are alike.
func anyTokens(r *rand.Rand) []api.Token {
	l := make([]api.Token, r.Intn(7))
	for i := range l {
		kind := []int{api.TokWord, api.TokWord, api.TokBlank, api.TokOther, api.TokNumber, api.TokIP, api.TokQuoted, r.Intn(14) - 2}[r.Intn(8)]
		texts := []string{"a", "b", "c", "*", "dd"}
		if i < 2 {
			texts = texts[:2]
		}
		l[i] = tok(kind, texts[r.Intn(len(texts))])
	}
	if r.Intn(40) == 0 {
		return slices.Repeat(words("x"), 60+r.Intn(10))
	}
	return l
}
