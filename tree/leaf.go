package tree

import "winnower/api"

// varied is the key of a token whose text varies from line to line.
const varied = "*"

// key is what all lines of a leaf have in common: how many tokens, and what the first two are.
type key struct {
	count         int
	first, second string
}

// leaf is the lines of a key in groups, of each the number of the template that it is at.
type leaf struct {
	key
	groups []int
}

// leaves is all leaves in the order in which they came, and where each is found.
type leaves struct {
	rows  []leaf
	place map[key]int // of each key where its leaf stands
}

// find is the leaf that has a key, nil if there is none.
func (l *leaves) find(k key) *leaf {
	n, ok := l.place[k]
	if !ok {
		return nil
	}
	return &l.rows[n]
}

// grow adds one more, whose key no other has.
func (l *leaves) grow(one leaf) {
	if l.place == nil {
		l.place = map[key]int{}
	}
	l.place[one.key] = len(l.rows)
	l.rows = append(l.rows, one)
}

// keyOf is the key of one token at least.
func keyOf(tokens []api.Token) key {
	k := key{count: len(tokens), first: keyText(tokens[0])}
	if len(tokens) > 1 {
		k.second = keyText(tokens[1])
	}
	return k
}

func keyText(t api.Token) string {
	switch t.Kind {
	case api.TokWord, api.TokBlank, api.TokOther:
		return t.Text
	}
	return varied
}

// templates is templates by their numbers. None of them is ever changed: who merges adds another one.
type templates struct {
	own []api.Template // all but number 0
}

// count is how many there are, number 0 too.
func (l *templates) count() int { return len(l.own) + 1 }

func (l *templates) full() bool { return l.count() >= api.MaxIDs }

// at is the template of a number that there is.
func (l *templates) at(id int) api.Template {
	if id == overflow {
		return api.Template{{Any: true}}
	}
	return l.own[id-1]
}

// add keeps one more, and tells its number.
func (l *templates) add(t api.Template) int {
	l.own = append(l.own, t)
	return len(l.own)
}
