package whole_test

import (
	"fmt"
	"slices"
	"testing"

	"winnower/api"
	"winnower/query"
	"winnower/sector"
	"winnower/vault"
	"winnower/world"
)

// told is all that is told, in words.
type told []string

func (l *told) add(what ...any) { *l = append(*l, fmt.Sprint(what...)) }

// plain is a list in words that do not tell nil from empty.
func plain[T any](l []T) string { return fmt.Sprintf("%#v", append([]T{}, l...)) }

// asked is some tokens of the lines that are there, and others.
func (m model) asked() []api.Token {
	l := []api.Token{{Kind: api.TokNumber, Text: "3"}, {Kind: api.TokWord, Text: "up"}, {Kind: api.TokBlank, Text: " "}, {Kind: api.TokWord}, {Kind: -1, Text: "up"}}
	for k := 0; k < len(m.lines); k += 1 + len(m.lines)/5 {
		for _, t := range tokensOf(m.lines[k]) {
			if !slices.Contains(l, t) && len(l) < 9 {
				l = append(l, t)
			}
		}
	}
	return l
}

// tell is all that the model tells.
func (m model) tell() told {
	var l told
	l.add("up ", m.up)
	if !m.up {
		return l
	}
	l.add("First ", m.first, " End ", m.end(), " Synced ", m.synced, " Free ", m.free(), " Dead ", m.dead)
	l.add("Spans ", plain(m.spans))
	l.add("Count ", len(m.lines), " Lines ", plain(m.lines))
	used := map[int]int{}
	for k, a := range m.given {
		l.add(m.first+k, " ", a.ID, " ", plain(a.Vars))
		used[a.ID]++
	}
	l.add("Used ", used)
	for id, t := range m.tree.templates {
		l.add("template ", id, " ", t, " ", m.byTemplate(id))
	}
	for _, t := range m.asked() {
		l.add("field ", t.Kind, " ", t.Text, " ", m.byField(t.Kind, t.Text))
	}
	return l
}

// tellWorld is all that a world tells, asked as of the model.
func (m model) tellWorld(w *world.World) told {
	var l told
	l.add("up ", w.Up())
	if e := w.Engine(); e != nil {
		l = append(l, m.tellEngine(e, w.Lines())...)
	}
	return l
}

// tellEngine is all that an engine tells, asked as of the model.
func (m model) tellEngine(e *query.Engine, lines []string) told {
	var l told
	l.add("First ", e.First(), " End ", e.End(), " Synced ", e.Synced(), " Free ", e.Free(), " Dead ", e.Dead())
	l.add("Spans ", plain(e.Spans()))
	l.add("Count ", e.Count(), " Lines ", plain(lines))
	for i := e.First(); i < e.End(); i++ {
		a, err := e.Assigned(i)
		if err != api.OK {
			l.add("error ", err)
		}
		l.add(i, " ", a.ID, " ", plain(a.Vars))
	}
	l.add("Used ", e.Used())
	for id, t := range e.List() {
		l.add("template ", id, " ", t, " ", e.ByTemplate(id))
	}
	for _, t := range m.asked() {
		l.add("field ", t.Kind, " ", t.Text, " ", e.ByField(t.Kind, t.Text))
	}
	return l
}

// wantsTold holds all that a world tells against the model.
func (m model) wantsTold(t *testing.T, what any, w *world.World) {
	t.Helper()
	if n, a, b := firstApart(m.tellWorld(w), m.tell()); n >= 0 {
		t.Fatalf("%.200v: told is %.500q, want %.500q", what, a, b)
	}
}

// firstApart is where two lists first tell unlike things; -1, if nowhere.
func firstApart(a, b told) (int, string, string) {
	for k := range max(len(a), len(b)) {
		x, y := "nothing", "nothing"
		if k < len(a) {
			x = a[k]
		}
		if k < len(b) {
			y = b[k]
		}
		if x != y {
			return k, x, y
		}
	}
	return -1, "", ""
}

// wantsRoom holds what lies on a disk, where nothing waits, against the model: no sector is two blobs'.
func (m model) wantsRoom(t *testing.T, what any, d *sector.Disk) {
	t.Helper()
	v, e := vault.Open(d)
	if e != api.OK {
		t.Fatalf("%.200v: error %d of the vault", what, e)
	}
	if v.Free() != m.free() || !slices.Equal(v.Owner(), m.owner()) || len(v.Names()) != len(m.blobs) {
		t.Fatalf("%.200v: free %d, want %d; owners %q, want %q", what, v.Free(), m.free(), v.Owner(), m.owner())
	}
	for name, b := range m.blobs {
		if data, e := v.Get(name); e != api.OK || !slices.Equal(data, b.data) {
			t.Fatalf("%.200v: blob %s: error %d, %.200x, want %.200x", what, name, e, data, b.data)
		}
	}
}

// pair is a world, and the model that it is held against.
type pair struct {
	t *testing.T
	w *world.World
	m model
}

// fresh is a pair that has just begun.
func fresh(t *testing.T, sectors int) *pair {
	t.Helper()
	w, e := world.New(sectors)
	if e != api.OK {
		t.Fatalf("New(%d): error %d", sectors, e)
	}
	p := &pair{t, w, begin(sectors)}
	p.wants("New")
	return p
}

// made is a pair to which some steps were done that do not err.
func made(t *testing.T, sectors int, steps ...world.Step) *pair {
	t.Helper()
	p := fresh(t, sectors)
	p.run(steps...)
	return p
}

// wants holds all that is told, and what lies on the disk, if nothing waits there.
func (p *pair) wants(what any) {
	p.t.Helper()
	p.m.wantsTold(p.t, what, p.w)
	if len(p.w.Disk().Waiting()) == 0 && !p.m.dead {
		p.m.wantsRoom(p.t, what, p.w.Disk())
	}
}

// do does a step to both, and holds them against each other; behind an error nothing may have changed.
func (p *pair) do(s world.Step) answer {
	p.t.Helper()
	a := p.m.step(s)
	var before told
	if a.e != api.OK {
		before = p.m.tellWorld(p.w)
	}
	n, e := p.w.Do(s)
	if n != a.n || e != a.e {
		p.t.Fatalf("%.200v: %d, error %d, want %d, error %d", s, n, e, a.n, a.e)
	}
	if e != api.OK && e != api.ErrDead {
		if n, was, is := firstApart(before, p.m.tellWorld(p.w)); n >= 0 {
			p.t.Fatalf("%.200v, error %d: what was %.200q is %.200q", s, e, was, is)
		}
	}
	p.m = a.after
	p.wants(s)
	return a
}

// run does steps that do not err.
func (p *pair) run(steps ...world.Step) {
	p.t.Helper()
	for _, s := range steps {
		if a := p.do(s); a.e != api.OK {
			p.t.Fatalf("%.200v: error %d", s, a.e)
		}
	}
}

// Steps, put together by hand.

func appends(lines ...string) world.Step {
	return world.Step{Kind: world.StepAppend, Lines: lines}
}

func drops(n int) world.Step { return world.Step{Kind: world.StepDrop, N: n} }

func fuses(n int) world.Step { return world.Step{Kind: world.StepFuse, N: n} }

func crashes(picks ...int) world.Step {
	return world.Step{Kind: world.StepCrash, Picks: picks}
}

var (
	syncs    = world.Step{Kind: world.StepSync}
	seals    = world.Step{Kind: world.StepSeal}
	compacts = world.Step{Kind: world.StepCompact}
	opens    = world.Step{Kind: world.StepOpen}
)

// lines is all lines of an engine.
func lines(e *query.Engine) []string {
	l, _ := e.Range(e.First(), e.End())
	return l
}
