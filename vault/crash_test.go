package vault_test

import (
	"math/rand"
	"testing"

	"winnower/api"
	"winnower/sector"
	"winnower/vault"
)

// picksOf is picks for all sectors of a disk: none, all, those ahead of one, those behind it, that one alone, or as a rule picks them.
func picksOf(seed, n int) []int {
	picks := make([]int, n)
	r := rand.New(rand.NewSource(int64(seed)))
	at := r.Intn(2 * api.SlotSize)
	for i := range picks {
		switch {
		case seed == 0:
		case seed == 1, seed%5 == 2 && i < at, seed%5 == 3 && i >= at, seed%5 == 4 && i == at:
			picks[i] = 1
		case seed%5 < 2:
			picks[i] = r.Intn(4) - 1
		}
	}
	return picks
}

// oneOf opens a disk, looks whether it has the one or the other, all of it and twice the same, and answers that one.
func oneOf(t *testing.T, what any, d *sector.Disk, a, b *model) (*vault.Vault, *model) {
	t.Helper()
	v := open(t, what, d)
	m := a
	if !a.tells(v) {
		m = b
	}
	m.wants(t, what, v)
	m.wantsDisk(t, what, d)
	return v, m
}

// P4.4: amid a Commit, at each write and flush, whatever stays.
func TestCrashAmidCommit(t *testing.T) {
	for n := range 5 + 1 + rootSteps {
		v, whole, m, put := holed(t)
		next, _ := m.commit([]string{"e"}, put...)
		whole.Fuse(n)
		wantErr(t, n, v.Commit([]string{"e"}, put...), api.ErrDead)
		for seed := range 60 {
			d := whole.Copy()
			d.Crash(picksOf(seed, 44)...)
			_, got := oneOf(t, []int{n, seed}, d, m, next)
			if n < 5+rootSteps && got != m || n == 5+rootSteps && seed < 2 && got != []*model{m, next}[seed] {
				t.Errorf("a fuse of %d, picks %d: it has the wrong one", n, seed)
			}
		}
	}
}

// P4.4: amid a Commit, and amid one behind that.
func TestCrashAmidNextCommit(t *testing.T) {
	for n := range 5 + 1 + rootSteps {
		v, whole, m, put := holed(t)
		next, _ := m.commit([]string{"e"}, put...)
		whole.Fuse(n)
		wantErr(t, n, v.Commit([]string{"e"}, put...), api.ErrDead)
		for seed := range 6 {
			first := whole.Copy()
			first.Crash(picksOf(seed, 44)...)
			for k := range 3 + rootSteps {
				d := first.Copy()
				v, held := oneOf(t, []int{n, seed, k}, d, m, next)
				gone, more := []string{"c"}, []vault.Blob{blob("a", 8, 30), blob("y", 9, 70)}
				last, _ := held.commit(gone, more...)
				d.Fuse(k)
				wantErr(t, k, v.Commit(gone, more...), api.ErrDead)
				d.Crash(picksOf(3*seed+k, 44)...)
				v, held = oneOf(t, []int{n, seed, k}, d, held, last)
				held.done(t, k, v, d, held.names(), blob("q", 1, 64))
			}
		}
	}
}

// P4.4, P0.5: many Commits, cut short or not, and crashes, as a rule picks them.
func TestManyCrashes(t *testing.T) {
	for seed := range 40 {
		r := rand.New(rand.NewSource(int64(seed)))
		v, d, m := fresh(t, slotsSize+r.Intn(25))
		for step := range 100 {
			gone, put := anyCommit(r)
			next, want := m.commit(gone, put...)
			d.Fuse(r.Intn(60) - 10)
			e := v.Commit(gone, put...)
			switch {
			case want != api.OK:
				wantErr(t, step, e, want)
				next = m
			case e == api.OK:
				m = next
			default:
				wantErr(t, step, e, api.ErrDead)
				m.wantDead(t, step, v, d)
			}
			m.wants(t, step, v)
			d.Crash(picksOf(r.Intn(100), m.size)...)
			if v.Dead() || r.Intn(5) == 0 {
				v, m = oneOf(t, []int{seed, step}, d, m, next)
			}
			if t.Failed() {
				t.Fatal("seed", seed)
			}
		}
	}
}
