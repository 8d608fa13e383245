package store_test

import (
	"slices"
	"sync"
	"testing"

	"winnower/api"
	"winnower/store"
)

// P22.5, W6: what is handed in is neither changed nor kept.
func TestMemoryOfLines(t *testing.T) {
	p := fresh(t, 200)
	lines := append(make([]string, 0, 6), "up 3", "down", "a b c")
	lines[:6][3] = "spare"
	if _, e := p.s.Append(lines...); e != api.OK {
		t.Fatal(e)
	}
	if !slices.Equal(lines[:6], []string{"up 3", "down", "a b c", "spare", "", ""}) {
		t.Errorf("%q", lines[:6])
	}
	for i := range lines[:6] {
		lines[:6][i] = "spoilt"
	}
	p.m = p.m.answered(appends("up 3", "down", "a b c"))
	p.wants("lines written over")
	p.run(syncs, seals)
	p.reopen()
}

// spoil writes over all that a store answers, spare room too.
func spoil(s *store.Store) {
	for i := s.First(); i < s.End(); i++ {
		a, _ := s.Assigned(i)
		for k := range a.Vars[:cap(a.Vars)] {
			a.Vars[:cap(a.Vars)][k] = "spoilt"
		}
	}
	for id := range s.Templates() {
		t, _ := s.Template(id)
		for k := range t[:cap(t)] {
			t[:cap(t)][k] = api.Part{Text: "spoilt"}
		}
	}
	l := s.Spans()
	for k := range l[:cap(l)] {
		l[:cap(l)][k] = api.Span{ID: 55, First: 5, Count: 5}
	}
}

// P22.5, W6, W7: what is answered is new memory, and stays what it is.
func TestMemoryOfAnswers(t *testing.T) {
	p := made(t, 300, append(counted(5, 3, 4), appends("up 3", "new one"), syncs, appends("up 4"))...)
	for _, c := range []step{appends("up 5"), syncs, compacts, seals, compacts, drops(8), drops(100)} {
		spans := p.s.Spans()
		var given []api.Assigned
		var templates []api.Template
		for i := p.s.First(); i < p.s.End(); i++ {
			a, _ := p.s.Assigned(i)
			given = append(given, a)
		}
		for id := range p.s.Templates() {
			template, _ := p.s.Template(id)
			templates = append(templates, template)
		}
		before := p.m
		p.run(c)
		if !slices.Equal(spans, before.spans) {
			t.Errorf("%v changed %v to %v", c, before.spans, spans)
		}
		for k, a := range given {
			if tellLine(a) != tellLine(before.given[k]) {
				t.Errorf("%v changed %v to %v", c, before.given[k], a)
			}
		}
		for id, template := range templates {
			if want, _ := before.tree.Template(id); !slices.Equal(template, want) {
				t.Errorf("%v changed %v to %v", c, want, template)
			}
		}
		spoil(p.s)
		p.wants("answers written over")
	}
	p.run(appends("up 3", "x"), syncs, seals, compacts)
	p.reopen()
	spoil(p.s)
	p.wants("answers written over")
}

// W6: two answers share nothing.
func TestMemoryOfTwo(t *testing.T) {
	p := made(t, 200, appends("up 3 and 4"), seals)
	a, _ := p.s.Assigned(0)
	b, _ := p.s.Assigned(0)
	x, _ := p.s.Template(1)
	y, _ := p.s.Template(1)
	m, n := p.s.Spans(), p.s.Spans()
	a.Vars[0], x[0].Text, m[0].ID = "spoilt", "spoilt", 99
	if b.Vars[0] != "3" || y[0].Text != "up" || n[0].ID != 1 {
		t.Error(b, y, n)
	}
}

// W2, P0.6: what is told depends on the sectors and the calls alone: stores in several goroutines tell the same.
func TestTogether(t *testing.T) {
	var all sync.WaitGroup
	for range 4 {
		all.Go(func() {
			p := fresh(t, 300)
			for _, c := range append(counted(5, 3, 4), appends("up 3"), syncs, compacts, appends("up 4"), drops(5), drops(8), seals, compacts) {
				p.do(c)
			}
			p.d.Crash()
			p.twin.Crash()
			s, e := store.Open(p.d)
			if e != api.OK {
				t.Errorf("error %d", e)
				return
			}
			p.m.wantsTold(t, "together", s)
		})
	}
	all.Wait()
}
