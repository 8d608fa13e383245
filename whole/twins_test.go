package whole_test

import (
	"fmt"
	"math/rand"
	"slices"
	"sync"
	"testing"

	"winnower/api"
	"winnower/sector"
	"winnower/tool"
	"winnower/world"
)

// sectors is all sectors of a disk, and what waits.
func sectors(d *sector.Disk) string {
	var l []byte
	for i := range d.Len() {
		b, _ := d.Read(i)
		l = append(l, b...)
	}
	return fmt.Sprintf("%x %v", l, d.Waiting())
}

// someRow is a row of steps by chance, with picks for each Crash.
func someRow(seed int64, many int) []step {
	r := rand.New(rand.NewSource(seed))
	var l []step
	m := model{up: true}
	for range many {
		s := someStep(r, m)
		if s.Kind == world.StepDrop {
			s.N = r.Intn(60)
		}
		if s.Kind == world.StepFuse {
			s.N = r.Intn(60)
		}
		if s.Kind == world.StepCrash {
			for range r.Intn(30) {
				s.Picks = append(s.Picks, r.Intn(5)-1)
			}
			l = append(l, s)
			s = opens
		}
		l = append(l, s)
	}
	return l
}

// history is all that a world tells behind each of some steps, and all sectors behind them.
func history(w *world.World, steps []step) told {
	var l told
	for k, s := range steps {
		n, e := w.Do(s)
		l.add(k, ": ", n, " ", e, " ", w.Up())
		if w.Up() {
			l.add(k, ": ", questions(w.Engine(), []api.Token{{Kind: api.TokWord, Text: "up"}, {Kind: api.TokNumber, Text: "3"}}))
			l.add(k, ": ", w.Engine().Synced(), w.Engine().Spans(), w.Engine().Free(), w.Engine().Dead())
		}
	}
	l.add(sectors(w.Disk()))
	return l
}

// P0.6: worlds of one disk and one row of steps, in several goroutines, tell the same behind each step, and their sectors are the same.
func TestTwins(t *testing.T) {
	for seed := range 8 {
		size := slots + []int{3, 20, 60, 400}[seed%4]
		steps := someRow(int64(600+seed), 60)
		var all [4]told
		var group sync.WaitGroup
		for k := range all {
			group.Go(func() {
				w, e := world.New(size)
				if e != api.OK {
					t.Errorf("New(%d): error %d", size, e)
					return
				}
				all[k] = history(w, steps)
			})
		}
		group.Wait()
		for _, other := range all[1:] {
			if k, x, y := firstApart(all[0], other); k >= 0 {
				t.Fatalf("%d: one tells %.300q, the other %.300q", seed, x, y)
			}
		}
		one, other := must(world.New(size)), must(world.New(size))
		errs := one.Run(steps...)
		for k, s := range steps {
			if _, e := other.Do(s); e != errs[k] {
				t.Errorf("%d, step %d: error %d, and %d", seed, k, e, errs[k])
			}
		}
		if sectors(one.Disk()) != sectors(other.Disk()) || !slices.Equal(one.Lines(), other.Lines()) {
			t.Errorf("%d: Run and Do part", seed)
		}
	}
}

// onto is a world of the sectors of a disk, whatever was there.
func onto(t *testing.T, d *sector.Disk) *world.World {
	t.Helper()
	w := must(world.New(d.Len()))
	w.Run(appends("other", "lines"), syncs, appends("more"), seals, crashes())
	for i := range d.Len() {
		b, _ := d.Read(i)
		if e := w.Disk().Write(i, b...); e != api.OK {
			t.Fatal(e)
		}
	}
	if e := w.Disk().Flush(); e != api.OK {
		t.Fatal(e)
	}
	if e := w.Run(opens); e[0] != api.OK {
		t.Fatalf("error %d", e[0])
	}
	return w
}

// P0.6: what is told depends on the sectors and the steps alone, not on what was ahead of them.
func TestSectorsAlone(t *testing.T) {
	for seed := range 8 {
		size := slots + []int{10, 30, 80, 500}[seed%4]
		w := must(world.New(size))
		w.Run(someRow(int64(700+seed), 50)...)
		w.Run(syncs, crashes(1, 0, 1, 1), opens)
		other := onto(t, w.Disk())
		third := onto(t, w.Disk().Copy())
		steps := someRow(int64(800+seed), 40)
		want := history(w, steps)
		for _, twin := range []*world.World{other, third} {
			if k, x, y := firstApart(history(twin, steps), want); k >= 0 {
				t.Fatalf("%d: one tells %.300q, the other %.300q", seed, x, y)
			}
		}
	}
}

// P0.6: steps that change nothing that is told to the sectors - those that err - leave what follows as it is.
func TestErrorsAreNoSteps(t *testing.T) {
	for seed := range 6 {
		steps := someRow(int64(900+seed), 50)
		w := must(world.New(slots + 100))
		errs := w.Run(steps...)
		var taken []step
		for k, s := range steps {
			// One that the fuse cut has written something.
			if errs[k] == api.OK || errs[k] == api.ErrDead {
				taken = append(taken, s)
			}
		}
		other := must(world.New(slots + 100))
		other.Run(taken...)
		if sectors(w.Disk()) != sectors(other.Disk()) || !slices.Equal(w.Lines(), other.Lines()) || w.Up() != other.Up() {
			t.Errorf("%d: steps that err are to be seen", seed)
		}
	}
}

// P0.6: a script answers the same each time, and so do two of them at one time.
func TestTwinScripts(t *testing.T) {
	text := ""
	for k := range 40 {
		text += fmt.Sprintf("add up %d\nadd user u%d did %d\nadd -> %q\n", k*k, k%3, k, fmt.Sprint(k))
		text += []string{"sync\n", "seal\ncompact\n", "fuse 9\nsync\ncrash 1 1 0 1\nopen\n", "drop 20\ntemplates\nlike 1\nfield word up\n"}[k%4]
	}
	want := tool.Run(text)
	var group sync.WaitGroup
	for range 4 {
		group.Go(func() {
			if got := tool.Run(text); got != want {
				t.Errorf("%q, want %q", got, want)
			}
		})
	}
	group.Wait()
}
