package whole_test

import (
	"regexp"
	"slices"
	"sync"
	"unicode/utf8"

	"winnower/api"
	"winnower/octet"
)

// kinds is chapter 12's table.
func kinds() [][2]string {
	return [][2]string{
		{"stamp", `[0-9]{4}\x2d[0-9]{2}\x2d[0-9]{2}T[0-9]{2}:[0-9]{2}:[0-9]{2}`},
		{"ip", `[0-9]{1,3}(\.[0-9]{1,3}){3}`},
		{"mac", `[0-9a-f]{2}(:[0-9a-f]{2}){5}`},
		{"hex", `0x[0-9a-fA-F]+`},
		{"number", `\-?[0-9]+(\.[0-9]+)?`},
		{"quoted", `"([^"\\]|\\.)*"`},
		{"word", `[A-Za-z_][A-Za-z0-9_]*`},
		{"blank", `[ \t]+`},
		{"other", `.`},
	}
}

// longest is the table, by which the longest text is found that begins a row of runes, each of which is a byte.
var longest = sync.OnceValue(func() []*regexp.Regexp {
	var l []*regexp.Regexp
	for _, k := range kinds() {
		re := regexp.MustCompile("(?s)^(?:" + k[1] + ")")
		re.Longest()
		l = append(l, re)
	}
	return l
})

// plainTokens is a line's tokens: each the longest text that stands there, of the lowest kind.
func plainTokens(line string) []api.Token {
	var rest []byte
	for i := range len(line) {
		rest = utf8.AppendRune(rest, rune(line[i]))
	}
	var l []api.Token
	for at := 0; at < len(line); {
		kind, most := -1, 0
		for k, re := range longest() {
			if n := len(re.Find(rest)); n > most {
				kind, most = k, n
			}
		}
		end := at + utf8.RuneCount(rest[:most])
		l = append(l, api.Token{Kind: kind, Text: line[at:end]})
		rest, at = rest[most:], end
	}
	return l
}

// known is the tokens of lines that were asked for.
var known sync.Map

// tokensOf is plainTokens, found once.
func tokensOf(line string) []api.Token {
	if l, ok := known.Load(line); ok {
		return l.([]api.Token)
	}
	l := plainTokens(line)
	known.Store(line, l)
	return l
}

// plainTree is chapter 15's tree in plain words.
type plainTree struct {
	templates []api.Template
	leaves    []plainLeaf
}

type plainLeaf struct {
	count  int
	keys   [2]string
	groups []int
}

func newTree() plainTree { return plainTree{templates: []api.Template{{{Any: true}}}} }

// copied is another one like it.
func (p plainTree) copied() plainTree {
	other := plainTree{templates: slices.Clone(p.templates)}
	for _, l := range p.leaves {
		l.groups = slices.Clone(l.groups)
		other.leaves = append(other.leaves, l)
	}
	return other
}

// alike is in how many parts a template and as many tokens are alike.
func alike(t api.Template, tokens []api.Token) int {
	n := 0
	for i, p := range t {
		if p.Any || p.Text == tokens[i].Text {
			n++
		}
	}
	return n
}

// assign is what a line is told as, by chapter 15's words, one after the other.
func (p *plainTree) assign(line string) api.Assigned {
	over := api.Assigned{ID: 0, Vars: []string{line}}
	tokens := tokensOf(line)
	n := len(tokens)
	if n == 0 || n > 64 {
		return over
	}
	var keys [2]string
	var template api.Template
	for i, token := range tokens {
		part := api.Part{Any: token.Kind < api.TokWord}
		key := "*"
		if !part.Any {
			part.Text, key = token.Text, token.Text
		}
		if i < 2 {
			keys[i] = key
		}
		template = append(template, part)
	}
	at := slices.IndexFunc(p.leaves, func(l plainLeaf) bool { return l.count == n && l.keys == keys })
	if at < 0 {
		if len(p.leaves) >= 32 || len(p.templates) >= 64 {
			return over
		}
		p.leaves = append(p.leaves, plainLeaf{n, keys, []int{len(p.templates)}})
		return p.fresh(template, tokens)
	}
	leaf := &p.leaves[at]
	best := 0
	for i, id := range leaf.groups {
		if alike(p.templates[id], tokens) > alike(p.templates[leaf.groups[best]], tokens) {
			best = i
		}
	}
	old := p.templates[leaf.groups[best]]
	many := alike(old, tokens)
	if many == n {
		return api.Assigned{ID: leaf.groups[best], Vars: vars(old, tokens)}
	}
	if len(p.templates) >= 64 || 2*many < n && len(leaf.groups) >= 8 {
		return over
	}
	if 2*many < n {
		leaf.groups = append(leaf.groups, len(p.templates))
		return p.fresh(template, tokens)
	}
	merged := slices.Clone(old)
	for i := range merged {
		if merged[i].Text != tokens[i].Text {
			merged[i] = api.Part{Any: true}
		}
	}
	leaf.groups[best] = len(p.templates)
	return p.fresh(merged, tokens)
}

// fresh adds a template, and is what a line is told as by it.
func (p *plainTree) fresh(t api.Template, tokens []api.Token) api.Assigned {
	p.templates = append(p.templates, t)
	return api.Assigned{ID: len(p.templates) - 1, Vars: vars(t, tokens)}
}

// vars is what of tokens stands at Any.
func vars(t api.Template, tokens []api.Token) []string {
	var l []string
	for i, p := range t {
		if p.Any {
			l = append(l, tokens[i].Text)
		}
	}
	return l
}

// encode is the tree as bytes.
func (p plainTree) encode() []byte {
	var w octet.Writer
	w.Nums(len(p.templates))
	for _, t := range p.templates[1:] {
		w.Nums(len(t))
		for _, part := range t {
			if part.Any {
				w.Nums(1)
			} else {
				w.Nums(0)
				w.Bytes([]byte(part.Text))
			}
		}
	}
	w.Nums(len(p.leaves))
	for _, l := range p.leaves {
		w.Nums(l.count)
		w.Bytes([]byte(l.keys[0]), []byte(l.keys[1]))
		w.Nums(len(l.groups))
		w.Nums(l.groups...)
	}
	return w.Out()
}
