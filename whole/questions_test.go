package whole_test

import (
	"fmt"
	"maps"
	"math/rand"
	"slices"
	"testing"

	"winnower/api"
	"winnower/query"
	"winnower/world"
)

// step is a step.
type step = world.Step

// questions is all that lines, ranges, counts, fields and templates tell of an engine.
func questions(e *query.Engine, asked []api.Token) told {
	var l told
	l.add("from ", e.First(), " to ", e.End(), ", ", e.Count())
	for from := e.First() - 1; from <= e.End()+1; from += 1 + e.Count()/9 {
		for to := from - 1; to <= e.End()+1; to += 1 + e.Count()/7 {
			lines, err := e.Range(from, to)
			l.add("Range ", from, " ", to, " ", plain(lines), err)
		}
	}
	for i := e.First(); i < e.End(); i++ {
		line, _ := e.Line(i)
		a, _ := e.Assigned(i)
		l.add("line ", i, " ", line, " ", a.ID, " ", plain(a.Vars))
	}
	for _, t := range asked {
		l.add("field ", t.Kind, " ", t.Text, " ", plain(e.ByField(t.Kind, t.Text)))
	}
	l.add("Used ", e.Used())
	for id, t := range e.List() {
		l.add("template ", id, " ", t, plain(e.ByTemplate(id)))
	}
	return l
}

// P0.4: runs that part only in where they sync, seal and compact tell the same of lines, ranges, counts and fields - and so they do when they are opened.
func TestQuestions(t *testing.T) {
	for seed := range 12 {
		t.Run(fmt.Sprint(seed), func(t *testing.T) {
			t.Parallel()
			r := rand.New(rand.NewSource(int64(400 + seed)))
			var all []string
			var asked []api.Token
			for range 30 + r.Intn(30) {
				line := someLine(r)
				all = append(all, line)
				for _, token := range tokensOf(line) {
					if !slices.Contains(asked, token) && r.Intn(4) == 0 {
						asked = append(asked, token)
					}
				}
			}
			var want told
			for run := range 7 {
				w := must(world.New(2000))
				for at := 0; at < len(all); {
					n := 1
					if run > 0 {
						n = min(1+r.Intn(5), len(all)-at)
					}
					if _, e := w.Do(appends(all[at : at+n]...)); e != api.OK {
						t.Fatal(e)
					}
					at += n
					if run > 0 {
						// Each run but the first one does the one or the other more often.
						w.Run([]step{syncs, seals, compacts, seals, compacts, {}, syncs}[r.Intn(2+run%6)])
					}
				}
				got := questions(w.Engine(), asked)
				if run == 0 {
					want = got
				}
				if k, x, y := firstApart(got, want); k >= 0 {
					t.Fatalf("run %d: %.300q, want %.300q", run, x, y)
				}
				w.Run([]step{syncs, seals}[run%2], crashes(), opens)
				if k, x, y := firstApart(questions(w.Engine(), asked), want); k >= 0 {
					t.Fatalf("run %d, opened: %.300q, want %.300q", run, x, y)
				}
			}
		})
	}
}

// P0.4: each field of each line is found, in just the lines that have such a token.
func TestFields(t *testing.T) {
	p := fresh(t, 2000)
	all := append(chanceLines(7, 150), allKinds()[:40]...)
	for n, line := range all {
		if len(line) > 0 {
			p.w.Do(appends(line))
		}
		p.w.Run([]step{syncs, {}, seals, {}, compacts, {}}[n%6])
	}
	e := p.w.Engine()
	have := map[api.Token][]int{}
	for i := e.First(); i < e.End(); i++ {
		line, _ := e.Line(i)
		for _, token := range plainTokens(line) {
			if l := have[token]; len(l) == 0 || l[len(l)-1] != i {
				have[token] = append(have[token], i)
			}
		}
	}
	for token, want := range have {
		if got := e.ByField(token.Kind, token.Text); !slices.Equal(got, want) {
			t.Errorf("%v: lines %v, want %v", token, got, want)
		}
		for kind := range api.Kinds {
			other := api.Token{Kind: kind, Text: token.Text}
			if got := e.ByField(kind, token.Text); !slices.Equal(got, have[other]) {
				t.Errorf("%v: lines %v, want %v", other, got, have[other])
			}
		}
	}
	if len(have) < 50 || e.Count() < 150 {
		t.Error(len(have), e.Count())
	}
}

// P0.4: what templates tell adds up: each line is of one, and each is asked for by its number.
func TestTemplatesAddUp(t *testing.T) {
	p := fresh(t, 2000)
	for n, line := range chanceLines(8, 200) {
		p.w.Do(appends(line))
		p.w.Run([]step{syncs, seals, compacts}[n%3])
	}
	e := p.w.Engine()
	p.w.Do(drops(e.First() + 40))
	used, n := map[int]int{}, 0
	for id := range e.List() {
		l := e.ByTemplate(id)
		for _, i := range l {
			if a, err := e.Assigned(i); err != api.OK || a.ID != id {
				t.Errorf("line %d: error %d, template %d, want %d", i, err, a.ID, id)
			}
		}
		if len(l) > 0 {
			used[id] = len(l)
		}
		n += len(l)
	}
	if n != e.Count() || !maps.Equal(e.Used(), used) {
		t.Errorf("%d lines, want %d; %v, want %v", n, e.Count(), e.Used(), used)
	}
}
