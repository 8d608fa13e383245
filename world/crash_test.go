package world_test

import (
	"fmt"
	"math/rand"
	"slices"
	"testing"

	"winnower/api"
	"winnower/world"
)

// scene is steps, and one more that is cut.
type scene struct {
	name  string
	ahead []world.Step
	cut   world.Step
}

func scenes() []scene {
	some := []world.Step{appends("up 1", "up 2"), seals(), appends("down", "a b c", "x"), seals(), appends("up 3"), seals(), drops(2), appends("up 4", "new one"), syncs(), appends("a b d"), syncs(), appends("not synced", "up 5")}
	return []scene{
		{"the first Sync", []world.Step{appends("a", "up 3")}, syncs()},
		{"the first Seal", []world.Step{appends("a", "up 3")}, seals()},
		{"a Sync behind batches", some, syncs()},
		{"a Seal of batches and more", some, seals()},
		{"a Compact", some, compacts()},
		{"a Drop of one", some, drops(5)},
		{"a Drop of all that is sealed", some, drops(100)},
	}
}

// picksOf is picks by a seed: none, all, or by chance.
func picksOf(seed int) []int {
	r := rand.New(rand.NewSource(int64(seed)))
	picks := make([]int, 60)
	for i := range picks {
		switch {
		case seed == 0:
		case seed == 1:
			picks[i] = 1
		default:
			picks[i] = r.Intn(4) - 1
		}
	}
	return picks
}

// wantsOne holds that the lines are those of a state, cut at or behind what was synced, or all of those behind the step that was under way.
func (p *pair) wantsOne(what any, before, after state) {
	p.t.Helper()
	now := stateOf(p.w.Engine())
	if now.synced != now.first+len(now.lines) {
		p.t.Errorf("%v: synced is %d of %v", what, now.synced, now)
	}
	dropped := now.first == after.first && after.first != before.first && now.cutOf(state{after.first, before.synced, after.lines})
	if !now.cutOf(before) && !dropped {
		p.t.Errorf("%v: %v, want %v or %v", what, now, before, after)
	}
}

// P24.1, P24.2: a fuse cuts a step at each of its places: it errs, nothing is told otherwise; behind a Crash and an Open there are the lines that there were; and it goes on from there.
func TestCutSteps(t *testing.T) {
	for _, s := range scenes() {
		uncut := made(t, 150, append(slices.Clone(s.ahead), s.cut)...)
		after := stateOf(uncut.w.Engine())
		for fuse := 0; ; fuse++ {
			p := made(t, 150, append(slices.Clone(s.ahead), fuses(fuse))...)
			before := stateOf(p.w.Engine())
			n, e := p.do(s.cut)
			if e == api.OK {
				if fuse < 17 {
					t.Errorf("%s: cut by nothing at %d", s.name, fuse)
				}
				break
			}
			what := fmt.Sprint(s.name, ", cut at ", fuse)
			if now := stateOf(p.w.Engine()); e != api.ErrDead || n != 0 || fmt.Sprint(now) != fmt.Sprint(before) {
				t.Errorf("%s: %d, error %d, %v, want %v", what, n, e, now, before)
			}
			p.run(crashes(picksOf(fuse%7)...), opens())
			p.wantsOne(what, before, after)
			p.run(appends("more", "up 7"), syncs(), seals(), compacts())
			behind := stateOf(p.w.Engine())
			p.run(appends("lost"), crashes(picksOf(fuse)...), opens())
			p.wantsOne(what+", and on", behind, behind)
		}
	}
}

// anyStep is a step by chance.
func anyStep(r *rand.Rand, first int) world.Step {
	switch r.Intn(16) {
	case 0, 1, 2, 3, 4:
		var l []string
		for range r.Intn(5) {
			l = append(l, []string{"up ", "down now ", "a b ", "", "-> x "}[r.Intn(5)]+fmt.Sprint(r.Intn(30)))
		}
		return appends(l...)
	case 5, 6:
		return syncs()
	case 7, 8:
		return seals()
	case 9:
		return compacts()
	case 10:
		return drops(first + r.Intn(20) - 4)
	case 11:
		return fuses(r.Intn(60) - 5)
	case 12:
		return crashes(picksOf(r.Intn(20))...)
	case 13:
		return world.Step{Kind: r.Intn(13) - 2}
	}
	return opens()
}

// P24.1, P24.2: steps by chance, on small disks and on great ones: each answer is the model's; behind each Crash and Open are the lines that there were.
func TestByChance(t *testing.T) {
	for seed := range 40 {
		r := rand.New(rand.NewSource(int64(seed)))
		p := fresh(t, 33+[]int{2, 8, 20, 60, 300}[seed%5])
		twin, e := world.New(p.w.Disk().Len())
		if e != api.OK {
			t.Fatal(e)
		}
		last := stateOf(p.w.Engine())
		first := 0
		for k := range 80 {
			s := anyStep(r, first)
			before := last
			n, e := p.do(s)
			// Two Worlds of one disk and one row of steps answer alike.
			if got, err := twin.Do(s); got != n || err != e || !slices.Equal(twin.Lines(), p.w.Lines()) || twin.Up() != p.w.Up() {
				t.Fatalf("%d, step %d: the twin answers %d, error %d, want %d, error %d", seed, k, got, err, n, e)
			}
			if !p.w.Up() {
				continue
			}
			last = stateOf(p.w.Engine())
			if s.Kind == world.StepOpen && e == api.OK {
				first = last.first
				if last.first == before.first && !last.cutOf(before) || last.first < before.first {
					t.Fatalf("%d, step %d: %v, was %v", seed, k, last, before)
				}
			}
		}
		wantsDisk(t, seed, twin.Disk(), p.w.Disk())
	}
}
