package super_test

import (
	"bytes"
	"math/rand"
	"testing"

	"winnower/api"
	"winnower/sector"
	"winnower/super"
)

// picksOf is picks for all sectors of both slots: none, all, those ahead of one, those behind it, or as a rule picks them.
func picksOf(seed int) []int {
	picks := make([]int, slotsSize)
	r := rand.New(rand.NewSource(int64(seed)))
	for i := range picks {
		switch {
		case seed == 0:
		case seed == 1, seed%5 == 2 && i < seed%api.SlotSize, seed%5 == 3 && i >= seed%api.SlotSize, seed%5 == 4 && i == seed%api.SlotSize:
			picks[i] = 1
		case seed%5 < 2:
			picks[i] = r.Intn(4) - 1
		}
	}
	return picks
}

// wantOneOf opens a disk, and looks whether it tells one of two images.
func wantOneOf(t *testing.T, what any, d *sector.Disk, a, b []byte) *super.Super {
	t.Helper()
	s, e := super.Open(d)
	if e != api.OK {
		t.Fatalf("%v: Open: %d", what, e)
	}
	if !bytes.Equal(s.Image(), a) && !bytes.Equal(s.Image(), b) {
		t.Fatalf("%v: neither of the two images: % x", what, s.Image())
	}
	return s
}

// cutShort is a disk on which a was there, and a Commit of b was cut short by a fuse; with how many Commits of a ahead.
func cutShort(t *testing.T, turns, fuse int, a, b []byte) *sector.Disk {
	t.Helper()
	d := newDisk(t, slotsSize)
	s := format(t, d, a)
	for range turns {
		wantErr(t, "Commit", s.Commit(a), api.OK)
	}
	d.Fuse(fuse)
	wantErr(t, "cut short", s.Commit(b), api.ErrDead)
	return d
}

// P3.4: amid a Commit.
func TestCrashAmidCommit(t *testing.T) {
	a, b := imageOf(1, api.MaxImage), imageOf(2, api.MaxImage)
	for turns := range 3 {
		for n := range api.SlotSize + 1 {
			whole := cutShort(t, turns, n, a, b)
			for seed := range 100 {
				d := whole.Copy()
				d.Crash(picksOf(seed)...)
				stays := 0
				for k := range n {
					if row, _ := d.Read((1-turns%2)*api.SlotSize + k); row[0] == byte(turns+2) {
						stays++
					}
				}
				want, number := a, turns+1
				if stays > 0 {
					number++
				}
				if stays == api.SlotSize {
					want = b
				}
				wantOpen(t, []int{turns, n, seed}, d, want, number)
			}
		}
	}
}

// P3.4: amid a Commit, and amid one behind that.
func TestCrashAmidNextCommit(t *testing.T) {
	a, b, c := imageOf(1, api.MaxImage), imageOf(2, api.MaxImage), imageOf(3, api.MaxImage)
	for n := range api.SlotSize + 1 {
		whole := cutShort(t, n%2, n, a, b)
		for seed := range 40 {
			first := whole.Copy()
			first.Crash(picksOf(seed)...)
			for m := range api.SlotSize + 1 {
				d := first.Copy()
				s := wantOneOf(t, n, d, a, b)
				held := s.Image()
				d.Fuse(m)
				wantErr(t, m, s.Commit(c), api.ErrDead)
				d.Crash(picksOf(3*seed + m)...)
				s = wantOneOf(t, []int{n, seed, m}, d, held, c)
				wantErr(t, m, s.Commit(b), api.OK)
				wantOpen(t, m, d, b, s.Number())
			}
		}
	}
}

// P3.4: half of the sectors of one Commit, the others of the next one: were both of one number, they would make a slot that is whole.
func TestCrashMixesNoCommits(t *testing.T) {
	a, b, c := imageOf(1, api.MaxImage), imageOf(2, api.MaxImage), imageOf(3, api.MaxImage)
	for turns := range 2 {
		for n := 1; n < api.SlotSize; n++ {
			d := cutShort(t, turns, n, a, b)
			d.Crash(picksOf(1)...)
			s := wantOpen(t, n, d, a, turns+2)
			d.Fuse(api.SlotSize)
			wantErr(t, n, s.Commit(c), api.ErrDead)
			picks := make([]int, api.SlotSize)
			for k := n; k < api.SlotSize; k++ {
				picks[k] = 1
			}
			d.Crash(picks...)
			wantOpen(t, n, d, a, turns+3)
		}
	}
}

// P3.4: many Commits, cut short or not, and crashes, as a rule picks them.
func TestManyCrashes(t *testing.T) {
	for seed := range 30 {
		r := rand.New(rand.NewSource(int64(seed)))
		d := newDisk(t, slotsSize+r.Intn(3))
		held, number := imageOf(0, r.Intn(api.MaxImage+1)), 1
		s := format(t, d, held)
		for step := 1; step < 150; step++ {
			next := imageOf(step, r.Intn(api.MaxImage+1))
			d.Fuse(r.Intn(2*api.SlotSize) - 5)
			if s.Commit(next) == api.OK {
				held, number = next, number+1
				wantTold(t, step, s, held, number)
				continue
			}
			wantTold(t, step, s, held, number)
			picks := picksOf(r.Intn(100))
			d.Crash(picks...)
			s = wantOneOf(t, []int{seed, step}, d, held, next)
			if got := s.Number(); got != number && got != number+1 {
				t.Fatalf("number %d behind %d", got, number)
			}
			held, number = s.Image(), s.Number()
			wantOpen(t, "opened twice", d, held, number)
		}
	}
}
