package whole_test

import (
	"fmt"
	"math/rand"
	"slices"
	"testing"

	"winnower/api"
	"winnower/query"
	"winnower/sector"
	"winnower/store"
	"winnower/vault"
	"winnower/world"
)

// scene is steps, and one more that is cut.
type scene struct {
	name  string
	ahead []world.Step
	cut   world.Step
}

func scenes() []scene {
	some := []world.Step{appends("up 1", "up 2"), seals, appends("down", "a b c", "x"), seals, appends("up 3"), seals, drops(2), appends("up 4", "new one 3"), syncs, appends("a b d"), syncs, appends("not synced", "up x", "")}
	return []scene{
		{"the first Sync", []world.Step{appends("a", "up 3")}, syncs},
		{"a Sync behind batches", some, syncs},
		{"the first Seal", []world.Step{appends("a", "up 3")}, seals},
		{"a Seal of batches and more", some, seals},
		{"a Compact", some, compacts},
		{"a Compact with nothing in the memory", []world.Step{appends("up 1"), seals, appends("up 2"), seals}, compacts},
		{"a Drop of one", some, drops(5)},
		{"a Drop of all that is sealed", some, drops(100)},
		{"a Drop of all", []world.Step{appends("a", "up 3"), seals}, drops(2)},
	}
}

// someOf is rows of picks for so many sectors that wait: none, all, each one alone, all but one, those ahead of one, those behind it, and some by chance; of many of these, some.
func someOf(waiting, seed int) [][]int {
	rows := [][]int{nil, slices.Repeat([]int{1}, waiting), slices.Repeat([]int{3}, waiting)}
	for i := range waiting {
		alone := make([]int, waiting)
		alone[i] = 1
		but := slices.Repeat([]int{1}, waiting)
		but[i] = []int{0, 2, -1}[i%3]
		behind := make([]int, waiting)
		for k := i; k < waiting; k++ {
			behind[k] = 1
		}
		rows = append(rows, alone, but, behind, slices.Repeat([]int{1}, i))
	}
	r := rand.New(rand.NewSource(int64(seed)))
	for range 4 {
		picks := make([]int, waiting)
		for i := range picks {
			picks[i] = r.Intn(6) - 1
		}
		rows = append(rows, picks)
	}
	if len(rows) > 12 {
		rest := rows[3:]
		r.Shuffle(len(rest), func(i, k int) { rest[i], rest[k] = rest[k], rest[i] })
	}
	return rows[:min(len(rows), 12)]
}

// wantsCut holds, in plain words, that the lines are those that there were, cut at or behind what was synced; or without those in front that were dropped.
func (m model) wantsCut(t *testing.T, what any, whole model, e *query.Engine) {
	t.Helper()
	was, now := m.lines, lines(e)
	if e.First() != m.first && e.First() == whole.first {
		was = was[whole.first-m.first:]
	} else if e.First() != m.first {
		t.Fatalf("%.200v: the first line is %d, was %d", what, e.First(), m.first)
	}
	if len(now) > len(was) || !slices.Equal(now, was[:len(now)]) || e.End() < m.synced || e.Synced() != e.End() {
		t.Fatalf("%.200v: lines %.500q, were %.500q, synced up to %d", what, now, m.lines, m.synced)
	}
}

// oneOf is which of two there is, behind a crash, on a disk: that one wholly. It is opened twice, and tells the same.
func oneOf(t *testing.T, what any, d *sector.Disk, a answer) model {
	t.Helper()
	before, whole := a.after.opened(), a.whole.opened()
	before.fuse, whole.fuse = -1, -1
	found := before
	for n := range 2 {
		s, e := store.Open(d)
		if e != api.OK {
			t.Fatalf("%.200v: Open: error %d", what, e)
		}
		q := &query.Engine{Store: s, Lexer: theLexer()}
		a.after.wantsCut(t, what, whole, q)
		told := whole.tellEngine(q, lines(q))
		if k, _, _ := firstApart(told, whole.tell()[1:]); n == 0 && k < 0 {
			found = whole
		}
		told = found.tellEngine(q, lines(q))
		if k, x, y := firstApart(told, found.tell()[1:]); k >= 0 {
			t.Fatalf("%.200v: told is %.500q, want %.500q", what, x, y)
		}
		found.wantsRoom(t, what, d)
	}
	return found
}

// under does the steps of a scene, the last one under a fuse; whether that cut it.
func (s scene) under(t *testing.T, fuse int) (*pair, answer, bool) {
	t.Helper()
	p := made(t, 150, append(slices.Clone(s.ahead), fuses(fuse))...)
	a := p.do(s.cut)
	if a.e != api.OK && a.e != api.ErrDead {
		t.Fatalf("%s: error %d", s.name, a.e)
	}
	return p, a, a.e == api.ErrDead
}

// reopen crashes a world, opens it, and goes on with which of two it is.
func (p *pair) reopen(what any, a answer, picks ...int) {
	p.t.Helper()
	if e := p.w.Run(crashes(picks...), opens); e[0] != api.OK || e[1] != api.OK {
		p.t.Fatalf("%.200v: errors %v", what, e)
	}
	p.m = oneOf(p.t, what, p.w.Disk(), a)
	p.wants(what)
}

// P0.2: a Sync, a Seal, a Compact, a Drop are cut at each place: whatever stays of what was not flushed, opening succeeds, and the lines are those that there were; then on, and cut again.
func TestCrashes(t *testing.T) {
	for n, s := range scenes() {
		t.Run(s.name, func(t *testing.T) {
			t.Parallel()
			for fuse := 0; ; fuse++ {
				p, a, cut := s.under(t, fuse)
				if !cut {
					break
				}
				what := fmt.Sprint("cut at ", fuse)
				for _, picks := range someOf(len(p.w.Disk().Waiting()), fuse) {
					d := p.w.Disk().Copy()
					d.Crash(picks...)
					oneOf(t, fmt.Sprint(what, ", picks ", picks), d, a)
				}
				if fuse%3 == n%3 || fuse > 15 {
					p.goOn(what, a, int64(100*n+fuse))
				}
			}
		})
	}
}

// somePicks is picks by chance for all sectors that wait.
func (p *pair) somePicks(r *rand.Rand) []int {
	rows := someOf(len(p.w.Disk().Waiting()), r.Int())
	return rows[r.Intn(len(rows))]
}

// goOn crashes and opens, does more, and cuts and crashes that as well.
func (p *pair) goOn(what string, a answer, seed int64) {
	p.t.Helper()
	r := rand.New(rand.NewSource(seed))
	p.reopen(what, a, p.somePicks(r)...)
	for _, s := range []world.Step{appends("more", "up 7"), syncs, appends("up 8"), seals, compacts, appends("last 3"), drops(p.m.first + 6), seals} {
		p.run(fuses(r.Intn(50)))
		a := p.do(s)
		if a.e == api.ErrDead {
			what = fmt.Sprint(what, ", then ", s.Kind)
			p.reopen(what, a, p.somePicks(r)...)
		}
	}
	p.run(fuses(-1), syncs)
	p.reopen(what+", at last", p.m.is(0, p.m))
}

// P0.2: of a commit that is cut each row of picks is tried: what there is then is that commit wholly, or nothing of it.
func TestEachPick(t *testing.T) {
	for _, s := range scenes() {
		t.Run(s.name, func(t *testing.T) {
			t.Parallel()
			for fuse := 0; ; fuse++ {
				p, a, cut := s.under(t, fuse)
				if !cut {
					break
				}
				waiting := len(p.w.Disk().Waiting())
				// All rows of sixteen are many: of the last places of a commit they are tried in one scene only.
				if waiting > 9 && (s.name != "a Compact" || waiting < api.SlotSize) {
					continue
				}
				for row := range 1 << waiting {
					picks := make([]int, waiting)
					for i := range picks {
						// One version waits in each: by twos the pick is the same.
						picks[i] = row>>i&1 + i%3*2
					}
					d := p.w.Disk().Copy()
					d.Crash(picks...)
					v, e := vault.Open(d)
					if e != api.OK {
						t.Fatalf("cut at %d, picks %v: error %d", fuse, picks, e)
					}
					whole := waiting == api.SlotSize && row == 1<<waiting-1
					want := a.after.room
					if whole {
						want = a.whole.room
					}
					if owner := v.Owner(); !slices.Equal(owner, want.owner()) {
						t.Fatalf("cut at %d, picks %v: owners %q, want %q", fuse, picks, owner, want.owner())
					}
				}
			}
		})
	}
}

// lastPlace is the fuse that cuts a step at its last place: all is written, but not flushed.
func (m model) lastPlace(s world.Step) int {
	for m.fuse = 0; m.step(s).e == api.ErrDead; m.fuse++ {
	}
	return m.fuse - 1
}

// P0.2: of two commits that are cut, one behind the other, the sectors of both may stay: they make none.
func TestTwoHalves(t *testing.T) {
	some := []world.Step{appends("up 1"), seals, appends("up 2"), seals, appends("a"), syncs, appends("b c"), syncs, appends("down 4")}
	cuts := []world.Step{syncs, seals, compacts, drops(1), drops(2)}
	for n, one := range cuts {
		for k := range api.SlotSize + 1 {
			other := cuts[(n+1+k%4)%len(cuts)]
			p := made(t, 150, some...)
			p.run(fuses(p.m.lastPlace(one)))
			a := p.do(one)
			front, back := slices.Repeat([]int{1}, k), append(make([]int, k), slices.Repeat([]int{1}, api.SlotSize-k)...)
			what := fmt.Sprint("of the one ", k, " sectors, kinds ", one.Kind, other.Kind)
			p.reopen(what, a, front...)
			if k == api.SlotSize {
				continue
			}
			p.run(appends("down 5"))
			p.run(fuses(p.m.lastPlace(other)))
			a = p.do(other)
			p.reopen(what, a, back...)
			if k > 0 && len(p.m.lines) == 0 {
				t.Errorf("%s: no line is left", what)
			}
			p.run(appends("down 6"), syncs, seals)
		}
	}
}

// P0.2: an opening is cut at each place, again and again: it is as it was.
func TestCutOpening(t *testing.T) {
	for n, s := range scenes() {
		for _, fuse := range []int{0, 1, 3, 9, 17, 18} {
			p, a, _ := s.under(t, fuse)
			r := rand.New(rand.NewSource(int64(n)))
			p.reopen(s.name, a, p.somePicks(r)...)
			before := p.m
			p.run(crashes(), crashes(1, 1, 1))
			for places := range 4 {
				p.run(fuses(places), opens, crashes(p.somePicks(r)...), fuses(places), opens)
				p.m.fuse = before.fuse
				if k, x, y := firstApart(p.m.tell(), before.tell()); k >= 0 {
					t.Errorf("%s: opened, it tells %.200q, want %.200q", s.name, x, y)
				}
				p.m.fuse = places
				p.run(crashes())
			}
			p.run(opens, appends("more"), syncs)
		}
	}
}

// P0.2: steps, fuses and crashes by chance, on small disks and on great ones.
func TestCrashesByChance(t *testing.T) {
	for seed := range 32 {
		t.Run(fmt.Sprint(seed), func(t *testing.T) {
			t.Parallel()
			r := rand.New(rand.NewSource(int64(200 + seed)))
			p := fresh(t, slots+[]int{2, 9, 30, 100, 400}[seed%5])
			for range 50 {
				s := someStep(r, p.m)
				if s.Kind == world.StepCrash || s.Kind == world.StepFuse {
					continue
				}
				if r.Intn(3) == 0 {
					p.run(fuses(r.Intn(45)))
				}
				a := p.do(s)
				switch {
				case a.e == api.ErrDead:
					p.reopen(s, a, p.somePicks(r)...)
				case r.Intn(10) == 0:
					p.reopen(s, p.m.is(0, p.m), p.somePicks(r)...)
				}
			}
		})
	}
}

// P0.2: what was synced is there behind any row of crashes; what was not is gone behind the first one.
func TestSyncedStays(t *testing.T) {
	p := fresh(t, 400)
	var kept []string
	for n := range 30 {
		p.run(appends(fmt.Sprint("up ", n), fmt.Sprint("-> ", n*n)))
		kept = append(kept, fmt.Sprint("up ", n), fmt.Sprint("-> ", n*n))
		p.run([]world.Step{syncs, seals, syncs}[n%3], appends("lost"), crashes(1, 2, 3))
		for range 1 + n%3 {
			p.run(opens, crashes())
		}
		p.run(opens)
		if n%6 == 5 {
			p.run(seals, compacts, compacts)
		}
		if got := p.w.Lines(); !slices.Equal(got, kept) {
			t.Fatalf("round %d: %q, want %q", n, got, kept)
		}
	}
}
