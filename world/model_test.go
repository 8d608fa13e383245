package world_test

import (
	"fmt"
	"slices"
	"testing"

	"winnower/api"
	"winnower/query"
	"winnower/sector"
	"winnower/store"
	"winnower/world"
)

// Steps, put together by hand.

func appends(lines ...string) world.Step {
	return world.Step{Kind: world.StepAppend, Lines: lines}
}

func drops(n int) world.Step { return world.Step{Kind: world.StepDrop, N: n} }

func fuses(n int) world.Step { return world.Step{Kind: world.StepFuse, N: n} }

func crashes(picks ...int) world.Step {
	return world.Step{Kind: world.StepCrash, Picks: picks}
}

func syncs() world.Step    { return world.Step{Kind: world.StepSync} }
func seals() world.Step    { return world.Step{Kind: world.StepSeal} }
func compacts() world.Step { return world.Step{Kind: world.StepCompact} }
func opens() world.Step    { return world.Step{Kind: world.StepOpen} }

// model is a world in plain words: a disk, and the store that is up on it, if one is.
type model struct {
	disk  *sector.Disk
	store *store.Store
}

// do is what chapter 24 says of a step.
func (m *model) do(s world.Step) (int, api.Errno) {
	if s.Kind == 6 {
		m.disk.Fuse(s.N)
		return 0, api.OK
	}
	if s.Kind == 7 {
		m.disk.Crash(s.Picks...)
		m.store = nil
		return 0, api.OK
	}
	if s.Kind == 8 {
		if m.store != nil {
			return 0, api.ErrArg
		}
		var e api.Errno
		m.store, e = store.Open(m.disk)
		return 0, e
	}
	if m.store == nil || s.Kind < 1 || s.Kind > 8 {
		return 0, api.ErrArg
	}
	switch s.Kind {
	case 1:
		return m.store.Append(s.Lines...)
	case 2:
		return 0, m.store.Sync()
	case 3:
		return 0, m.store.Seal()
	case 4:
		did, e := m.store.Compact()
		return map[bool]int{true: 1}[did], e
	}
	return m.store.Drop(s.N)
}

func (m *model) lines() []string {
	var l []string
	for i := m.store.First(); i < m.store.End(); i++ {
		line, _ := m.store.Line(i)
		l = append(l, line)
	}
	return l
}

// pair is a world, and the model that it is held against.
type pair struct {
	t *testing.T
	w *world.World
	m *model
}

// fresh is a pair that has just begun.
func fresh(t *testing.T, sectors int) *pair {
	t.Helper()
	d, e := sector.New(sectors)
	if e != api.OK {
		t.Fatal(e)
	}
	s, e := store.Format(d)
	if e != api.OK {
		t.Fatal(e)
	}
	w, e := world.New(sectors)
	if e != api.OK || w == nil {
		t.Fatalf("New(%d): error %d", sectors, e)
	}
	p := &pair{t, w, &model{d, s}}
	p.wants("New")
	return p
}

// made is a pair to which some steps were done that do not err.
func made(t *testing.T, sectors int, steps ...world.Step) *pair {
	t.Helper()
	p := fresh(t, sectors)
	p.run(steps...)
	return p
}

// do does a step to both, and holds them against each other; the answer is that of both.
func (p *pair) do(s world.Step) (int, api.Errno) {
	p.t.Helper()
	n, e := p.m.do(s)
	if got, err := p.w.Do(s); got != n || err != e {
		p.t.Errorf("%.80v: %d, error %d, want %d, error %d", s, got, err, n, e)
	}
	p.wants(s)
	return n, e
}

// run does steps that do not err.
func (p *pair) run(steps ...world.Step) {
	p.t.Helper()
	for _, s := range steps {
		if _, e := p.do(s); e != api.OK {
			p.t.Fatalf("%.80v: error %d", s, e)
		}
	}
}

// answers does a step, and holds what both answer.
func (p *pair) answers(s world.Step, n int, e api.Errno) {
	p.t.Helper()
	if got, err := p.do(s); got != n || err != e {
		p.t.Errorf("%.80v: %d, error %d, want %d, error %d", s, got, err, n, e)
	}
}

// wants holds all that the world tells against the model.
func (p *pair) wants(what any) {
	p.t.Helper()
	up := p.m.store != nil
	if p.w.Up() != up || (p.w.Engine() != nil) != up {
		p.t.Errorf("%.80v: up %v, an engine %v, want %v", what, p.w.Up(), p.w.Engine() != nil, up)
		return
	}
	if got := p.w.Lines(); !slices.Equal(got, p.m.lines()) {
		p.t.Errorf("%.80v: lines %.300q, want %.300q", what, got, p.m.lines())
	}
	if up {
		if got, want := tellStore(p.w.Engine().Store), tellStore(p.m.store); got != want {
			p.t.Errorf("%.80v: told is %s, want %s", what, got, want)
		}
	}
	wantsDisk(p.t, what, p.w.Disk(), p.m.disk)
}

// tellStore is what a store tells of itself.
func tellStore(s *store.Store) string {
	return fmt.Sprint(s.First(), s.End(), s.Synced(), s.Spans(), s.Templates(), s.Free(), s.Dead())
}

// wantsDisk holds each sector, and what waits.
func wantsDisk(t *testing.T, what any, d, want *sector.Disk) {
	t.Helper()
	if d.Len() != want.Len() || !slices.Equal(d.Waiting(), want.Waiting()) {
		t.Errorf("%.80v: %d sectors, %v wait, want %d, %v", what, d.Len(), d.Waiting(), want.Len(), want.Waiting())
		return
	}
	for i := range want.Len() {
		a, _ := d.Read(i)
		b, _ := want.Read(i)
		if !slices.Equal(a, b) {
			t.Errorf("%.80v: sector %d is % x, want % x", what, i, a, b)
			return
		}
	}
}

// state is what of an engine a crash may not spoil: its lines, by their numbers.
type state struct {
	first, synced int
	lines         []string
}

func stateOf(e *query.Engine) state {
	lines, _ := e.Range(e.First(), e.End())
	return state{e.First(), e.Synced(), lines}
}

// cutOf tells whether lines are those of a state, cut at or behind what was synced.
func (s state) cutOf(of state) bool {
	return s.first == of.first && len(s.lines) <= len(of.lines) && slices.Equal(s.lines, of.lines[:len(s.lines)]) && s.first+len(s.lines) >= of.synced
}
