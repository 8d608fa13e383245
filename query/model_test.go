package query_test

import (
	"fmt"
	"slices"
	"sync"
	"testing"

	"winnower/api"
	"winnower/lexer"
	"winnower/query"
	"winnower/sector"
	"winnower/store"
	"winnower/tree"
)

var theLexer = sync.OnceValue(lexer.New)

// tokensOf is the tokens of a line that is not too long.
func tokensOf(line string) []api.Token {
	l, e := theLexer().Lex(line)
	if e != api.OK {
		panic(e)
	}
	return l
}

// rows is a store in plain words: all lines that ever were, which of them are gone in front, and what each was Assigned as.
type rows struct {
	lines []string
	given []api.Assigned
	first int
	tree  *tree.Tree
}

// rowsOf is lines of which so many are gone in front.
func rowsOf(first int, lines ...string) rows {
	r := rows{lines: lines, first: first, tree: tree.New()}
	for _, line := range lines {
		r.given = append(r.given, r.tree.Assign(tokensOf(line)...))
	}
	return r
}

func (r rows) end() int { return len(r.lines) }

// where is the numbers of the lines that are there for which something holds.
func (r rows) where(holds func(i int) bool) []int {
	var l []int
	for i := r.first; i < len(r.lines); i++ {
		if holds(i) {
			l = append(l, i)
		}
	}
	return l
}

func (r rows) byField(kind int, text string) []int {
	return r.where(func(i int) bool {
		for _, t := range tokensOf(r.lines[i]) {
			if t.Kind == kind && t.Text == text {
				return true
			}
		}
		return false
	})
}

func (r rows) byTemplate(ids ...int) []int {
	return r.where(func(i int) bool { return slices.Contains(ids, r.given[i].ID) })
}

// asks is all tokens of all lines, and others like them.
func (r rows) asks() []api.Token {
	l := []api.Token{{Kind: api.TokNumber}, {Kind: api.TokBlank}, {Kind: api.TokWord, Text: "u"}, {Kind: api.TokNumber, Text: "99"}, {Kind: -1, Text: "3"}, {Kind: api.Kinds, Text: "3"}}
	for _, line := range r.lines {
		for _, t := range tokensOf(line) {
			other := api.Token{Kind: (t.Kind + 1) % api.Kinds, Text: t.Text}
			for _, one := range []api.Token{t, other} {
				if !slices.Contains(l, one) {
					l = append(l, one)
				}
			}
		}
	}
	return l
}

// told is what is told, in words.
type told []string

func (l *told) add(what ...any) { *l = append(*l, fmt.Sprint(what...)) }

// plain is a list in words that do not tell nil from empty.
func plain[T any](l []T) string { return fmt.Sprintf("%#v", append([]T{}, l...)) }

// tell is all that may be asked of the rows.
func (r rows) tell() told {
	var l told
	l.add("Count ", r.end()-r.first)
	for from := r.first - 1; from <= r.end()+1; from++ {
		for to := r.first - 1; to <= r.end()+1; to++ {
			switch {
			case from > to:
				l.add("Range ", from, " ", to, " ", plain([]string{}), api.ErrArg)
			case from < r.first || to > r.end():
				l.add("Range ", from, " ", to, " ", plain([]string{}), api.ErrNone)
			default:
				l.add("Range ", from, " ", to, " ", plain(r.lines[from:to]), api.OK)
			}
		}
	}
	for _, a := range r.asks() {
		l.add("ByField ", a.Kind, " ", a.Text, " ", plain(r.byField(a.Kind, a.Text)))
	}
	used := map[int]int{}
	for id := -1; id <= r.tree.Len(); id++ {
		l.add("ByTemplate ", id, " ", plain(r.byTemplate(id)))
		l.add("ByTemplate ", id, id+2, " ", plain(r.byTemplate(id, id+2)))
		if n := len(r.byTemplate(id)); n > 0 {
			used[id] = n
		}
	}
	l.add("Used ", used)
	for id := range r.tree.Len() {
		t, _ := r.tree.Template(id)
		l.add("List ", id, " ", t)
	}
	return l
}

// tellEngine is all that may be asked of an engine, asked as of the rows.
func tellEngine(r rows, e *query.Engine) told {
	var l told
	l.add("Count ", e.Count())
	for from := r.first - 1; from <= r.end()+1; from++ {
		for to := r.first - 1; to <= r.end()+1; to++ {
			lines, err := e.Range(from, to)
			l.add("Range ", from, " ", to, " ", plain(lines), err)
		}
	}
	for _, a := range r.asks() {
		l.add("ByField ", a.Kind, " ", a.Text, " ", plain(e.ByField(a.Kind, a.Text)))
	}
	for id := -1; id <= r.tree.Len(); id++ {
		l.add("ByTemplate ", id, " ", plain(e.ByTemplate(id)))
		l.add("ByTemplate ", id, id+2, " ", plain(e.ByTemplate(id, id+2)))
	}
	l.add("Used ", e.Used())
	for id, t := range e.List() {
		l.add("List ", id, " ", t)
	}
	return l
}

// wants holds all that an engine tells against plain rows.
func (r rows) wants(t *testing.T, what any, e *query.Engine) {
	t.Helper()
	got, want := tellEngine(r, e), r.tell()
	for k := range max(len(got), len(want)) {
		if k >= len(got) || k >= len(want) || got[k] != want[k] {
			t.Errorf("%v: told is %.300q, want %.300q", what, got[min(k, len(got)):min(k+1, len(got))], want[min(k, len(want)):min(k+1, len(want))])
			return
		}
	}
}

// fresh is an engine of a store that has just been formatted, and its disk.
func fresh(t *testing.T, sectors int) (*query.Engine, *sector.Disk) {
	t.Helper()
	d, err := sector.New(sectors)
	if err != api.OK {
		t.Fatal(err)
	}
	s, err := store.Format(d)
	if err != api.OK {
		t.Fatal(err)
	}
	return query.New(s), d
}

// step is what is done to an engine's store.
type step func(e *query.Engine) api.Errno

func appends(lines ...string) step {
	return func(e *query.Engine) api.Errno {
		_, err := e.Append(lines...)
		return err
	}
}

func drops(n int) step {
	return func(e *query.Engine) api.Errno {
		_, err := e.Drop(n)
		return err
	}
}

func syncs(e *query.Engine) api.Errno { return e.Sync() }

func seals(e *query.Engine) api.Errno { return e.Seal() }

func compacts(e *query.Engine) api.Errno {
	_, err := e.Compact()
	return err
}

// run does steps that do not err.
func run(t *testing.T, e *query.Engine, steps ...step) {
	t.Helper()
	for k, s := range steps {
		if err := s(e); err != api.OK {
			t.Fatalf("step %d: error %d", k, err)
		}
	}
}

// made is an engine whose store some steps were done to.
func made(t *testing.T, steps ...step) *query.Engine {
	t.Helper()
	e, _ := fresh(t, 400)
	run(t, e, steps...)
	return e
}

// wantsNumbers holds a row of numbers.
func wantsNumbers(t *testing.T, what any, got []int, want ...int) {
	t.Helper()
	if !slices.Equal(got, want) {
		t.Errorf("%v: %v, want %v", what, got, want)
	}
}
