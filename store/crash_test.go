package store_test

import (
	"fmt"
	"math/rand"
	"slices"
	"testing"

	"winnower/api"
	"winnower/sector"
	"winnower/store"
	"winnower/vault"
)

// scene is calls, and one more that is cut.
type scene struct {
	name  string
	ahead []step
	cut   step
}

func scenes() []scene {
	some := append(counted(5, 3, 4), drops(5), appends("up 3", "new one"), syncs, appends("up 4", "a b c"), syncs, appends("not synced", "up 5"))
	return []scene{
		{"the first Sync", []step{appends("a", "up 3")}, syncs},
		{"the first Seal", []step{appends("a", "up 3")}, seals},
		{"a Sync behind batches", some, syncs},
		{"a Seal of batches and more", some, seals},
		{"a Compact", some, compacts},
		{"a Drop of one", some, drops(8)},
		{"a Drop of all", some, drops(100)},
		{"a Drop of the only one", []step{appends("a", "up 3"), seals}, drops(2)},
	}
}

// answered is the model behind a call that is not cut.
func (m model) answered(c step) model { return m.call(c).after }

// picksOf is picks for the sectors that wait: none, all, those ahead of one, those behind it, that one alone, or by chance.
func picksOf(seed, n int) []int {
	picks := make([]int, n)
	r := rand.New(rand.NewSource(int64(seed)))
	at := r.Intn(n + 1)
	for i := range picks {
		switch {
		case seed == 0:
		case seed == 1, seed%5 == 2 && i < at, seed%5 == 3 && i >= at, seed%5 == 4 && i == at:
			picks[i] = 1
		case seed%5 < 2:
			picks[i] = r.Intn(4) - 1
		}
	}
	return picks
}

// oneOf opens a disk, looks whether it is the one or the other, all of it and twice the same, and goes on with that one.
func oneOf(t *testing.T, what any, d *sector.Disk, a, b model) *pair {
	t.Helper()
	s, e := store.Open(d)
	if e != api.OK {
		t.Fatalf("%v: Open: error %d", what, e)
	}
	m := a.opened(t)
	if other := b.opened(t); slices.Equal(tellStore(s), other.tell()) {
		m = other
	}
	m.wantsTold(t, what, s)
	m.wantsBlobs(t, what, d)
	again, e := store.Open(d)
	if e != api.OK {
		t.Fatalf("%v: once more Open: error %d", what, e)
	}
	m.wantsTold(t, what, again)
	p := &pair{t: t, d: d, s: again, m: m, twin: d.Copy()}
	p.v, _ = vault.Open(p.twin)
	p.wants(what)
	return p
}

// wantsDead holds that a dead store tells what it told, and does nothing any more.
func (p *pair) wantsDead(what any) {
	p.t.Helper()
	if !p.m.dead || !p.s.Dead() {
		p.t.Errorf("%v: it is not dead", what)
	}
	for _, c := range []step{appends(), appends("a"), appends(long(257)), appends(make([]string, 65)...), syncs, seals, compacts, drops(0), drops(100)} {
		p.wantsErr(c, api.ErrDead)
	}
}

// under makes the last call of a scene under a fuse; whether the fuse cut it.
func (s scene) under(t *testing.T, fuse int) (*pair, bool) {
	t.Helper()
	p := made(t, 150, s.ahead...)
	p.d.Fuse(fuse)
	p.twin.Fuse(fuse)
	_, e := p.do(s.cut)
	if e != api.OK && e != api.ErrDead {
		t.Fatalf("%s: error %d", s.name, e)
	}
	return p, e == api.ErrDead
}

// P22.4, P22.5: the fuse cuts a Commit at each place: the Store is Dead; whatever stays behind the crash, Open tells what was synced, or what the call would have made.
func TestCutCommit(t *testing.T) {
	for _, s := range scenes() {
		for fuse := 0; ; fuse++ {
			what := fmt.Sprint(s.name, ", cut at ", fuse)
			p, cut := s.under(t, fuse)
			if !cut {
				break
			}
			before, after := p.m, p.m
			before.dead, after.dead = false, false
			after = after.answered(s.cut)
			p.wantsDead(what)
			for _, seed := range []int{0, 1, 2 + fuse%5, 7 + fuse%9} {
				d := p.d.Copy()
				d.Crash(picksOf(seed, len(d.Waiting()))...)
				q := oneOf(t, fmt.Sprint(what, ", crash ", seed), d, before, after)
				if seed > 6 {
					q.run(appends("more", "up 7"), syncs, compacts, seals, compacts, drops(before.first+6))
					q.reopen()
				}
			}
			// A dead store stays dead behind a crash, too, and without a fuse.
			p.d.Fuse(-1)
			p.twin.Fuse(-1)
			p.wantsDead(what)
			p.d.Crash()
			p.twin.Crash()
			p.wantsDead(what)
		}
	}
}

// P22.5: what was cut is done again, and cut again: behind that, too, Open tells one of both.
func TestCutAgain(t *testing.T) {
	for i, s := range scenes() {
		r := rand.New(rand.NewSource(int64(225 + i)))
		for fuse := 0; ; fuse += 2 + r.Intn(6) {
			p, cut := s.under(t, fuse)
			if !cut {
				break
			}
			before, after := p.m, p.m
			before.dead, after.dead = false, false
			after = after.answered(s.cut)
			d := p.d
			d.Crash(picksOf(r.Intn(40), len(d.Waiting()))...)
			what := fmt.Sprint(s.name, ", cut at ", fuse)
			q := oneOf(t, what, d, before, after)
			for _, c := range []step{appends("other", "up 8"), syncs, seals, drops(before.first + 1), compacts, appends("up 9"), seals} {
				again := r.Intn(30)
				q.d.Fuse(again)
				q.twin.Fuse(again)
				before, after = q.m, q.m.answered(c)
				if _, e := q.do(c); e != api.ErrDead {
					before, after = q.m, q.m
				}
				what = fmt.Sprint(what, ", then ", c, " cut at ", again)
				q.d.Crash(picksOf(r.Intn(40), len(q.d.Waiting()))...)
				q = oneOf(t, what, q.d, before, after)
			}
		}
	}
}

// P22.5: a call that answered OK is there, whatever the crash picks; a crash takes just what was not synced.
func TestCrashBehind(t *testing.T) {
	for _, s := range scenes() {
		p := made(t, 150, append(slices.Clone(s.ahead), s.cut)...)
		for seed := range 10 {
			d := p.d.Copy()
			d.Crash(picksOf(seed, 10)...)
			oneOf(t, s.name, d, p.m, p.m)
		}
		p.run(appends("never synced"))
		p.reopen()
		p.reopen()
	}
}

// anyStep is a call by chance, of numbers near those that there are.
func anyStep(r *rand.Rand, m model) step {
	switch r.Intn(9) {
	case 0, 1, 2, 3:
		var l []string
		for range r.Intn(7) {
			l = append(l, []string{"up ", "down now ", "a b ", "", "-> x ", "user \"q\" did "}[r.Intn(6)]+fmt.Sprint(r.Intn(50)))
		}
		if r.Intn(30) == 0 {
			l = append(l, long(255+r.Intn(4)))
		}
		return appends(l...)
	case 4, 5:
		return syncs
	case 6:
		return seals
	case 7:
		return compacts
	}
	return drops(m.first + r.Intn(40) - 5)
}

// P0.1, P0.2, P0.6, P22.1 to P22.5: calls, fuses and crashes by chance, on small disks and on great ones.
func TestByChance(t *testing.T) {
	for seed := range 48 {
		r := rand.New(rand.NewSource(int64(seed)))
		p := fresh(t, slots+1+[]int{3, 8, 15, 30, 60, 400}[seed%6])
		for range 60 {
			c := anyStep(r, p.m)
			before, after := p.m, p.m.answered(c)
			if r.Intn(5) == 0 {
				fuse := r.Intn(30)
				p.d.Fuse(fuse)
				p.twin.Fuse(fuse)
			}
			_, e := p.do(c)
			if e != api.OK && !p.m.dead && !slices.Equal(p.m.tell(), before.tell()) {
				t.Errorf("%v changed what is told", c)
			}
			if e != api.ErrDead {
				before, after = p.m, p.m
			}
			if e == api.ErrDead || r.Intn(12) == 0 {
				p.d.Crash(picksOf(r.Intn(40), len(p.d.Waiting()))...)
				p = oneOf(t, fmt.Sprint(seed, " ", c), p.d, before, after)
				continue
			}
			p.d.Fuse(-1)
			p.twin.Fuse(-1)
		}
	}
}
