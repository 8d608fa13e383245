package world_test

import (
	"fmt"
	"math"
	"slices"
	"strings"
	"sync"
	"testing"

	"winnower/api"
	"winnower/sector"
	"winnower/world"
)

// The chapter's example: P24.1.
func TestExample(t *testing.T) {
	w, e := world.New(64)
	if e != api.OK {
		t.Fatal(e)
	}
	for _, s := range []world.Step{appends("a"), syncs(), crashes(), opens()} {
		if n, e := w.Do(s); n != 0 || e != api.OK {
			t.Errorf("%v: %d, error %d", s, n, e)
		}
	}
	if l := w.Lines(); !slices.Equal(l, []string{"a"}) {
		t.Errorf("%q", l)
	}
}

// The steps' numbers are those of the chapter.
func TestKinds(t *testing.T) {
	if got := []int{world.StepAppend, world.StepSync, world.StepSeal, world.StepCompact, world.StepDrop, world.StepFuse, world.StepCrash, world.StepOpen}; !slices.Equal(got, []int{1, 2, 3, 4, 5, 6, 7, 8}) {
		t.Error(got)
	}
}

// P24.1: New of as many sectors as a disk may not have, as a vault can't be on, as a manifest finds no room on, as are just enough.
func TestNew(t *testing.T) {
	for _, at := range []struct {
		sectors int
		e       api.Errno
	}{
		{math.MinInt, api.ErrArg}, {-1, api.ErrArg}, {0, api.ErrArg}, {api.MaxDisk + 1, api.ErrArg}, {math.MaxInt, api.ErrArg},
		{1, api.ErrArg}, {31, api.ErrArg}, {32, api.ErrFull},
	} {
		if w, e := world.New(at.sectors); e != at.e || w != nil {
			t.Errorf("New(%d): error %d, want %d", at.sectors, e, at.e)
		}
	}
	for _, sectors := range []int{33, 34, 64, 512, api.MaxDisk} {
		p := fresh(t, sectors)
		if !p.w.Up() || p.w.Engine() == nil || p.w.Disk().Len() != sectors || len(p.w.Lines()) > 0 || p.w.Engine().Free() != sectors-33 || len(p.w.Disk().Waiting()) > 0 {
			t.Error(p.w.Up(), p.w.Disk().Len(), p.w.Lines())
		}
		p.run(crashes(), opens())
	}
}

// P24.1: none, several, a line that is too long, more lines than the memory may have.
func TestAppend(t *testing.T) {
	p := fresh(t, 100)
	long := strings.Repeat("x", api.MaxLine)
	p.answers(appends(), 0, api.OK)
	p.answers(appends("a"), 0, api.OK)
	p.answers(appends("b", "", "c"), 1, api.OK)
	p.answers(appends(), 4, api.OK)
	p.answers(appends("d", long+"x"), 0, api.ErrLong)
	p.answers(appends(long), 4, api.OK)
	p.answers(appends(make([]string, 60)...), 0, api.ErrLimit)
	p.answers(appends(make([]string, 59)...), 5, api.OK)
	p.answers(appends(""), 0, api.ErrLimit)
	p.answers(seals(), 0, api.OK)
	p.answers(appends("e"), 64, api.OK)
	if l := p.w.Lines(); len(l) != 65 || l[0] != "a" || l[4] != long || l[64] != "e" {
		t.Errorf("%.200q", l)
	}
}

// P24.1: a Sync, a Seal, a Compact and a Drop with something to do, and with nothing.
func TestChanges(t *testing.T) {
	p := fresh(t, 200)
	wants := func(what string, first, synced, spans int) {
		t.Helper()
		if e := p.w.Engine(); e.First() != first || e.Synced() != synced || len(e.Spans()) != spans {
			t.Errorf("%s: first %d, synced %d, spans %v", what, e.First(), e.Synced(), e.Spans())
		}
	}
	for _, s := range []world.Step{syncs(), seals(), compacts(), drops(0), drops(9)} {
		p.answers(s, 0, api.OK)
	}
	wants("nothing", 0, 0, 0)
	p.answers(appends("up 3", "up 4"), 0, api.OK)
	wants("appended", 0, 0, 0)
	p.answers(syncs(), 0, api.OK)
	wants("synced", 0, 2, 0)
	p.answers(compacts(), 0, api.OK)
	p.answers(drops(2), 0, api.OK)
	p.answers(appends("down"), 2, api.OK)
	p.answers(seals(), 0, api.OK)
	wants("sealed", 0, 3, 1)
	p.answers(compacts(), 0, api.OK)
	p.answers(appends("up 5"), 3, api.OK)
	p.answers(seals(), 0, api.OK)
	wants("sealed twice", 0, 4, 2)
	p.answers(compacts(), 1, api.OK)
	wants("compacted", 0, 4, 1)
	p.answers(compacts(), 0, api.OK)
	p.answers(appends("up 6"), 4, api.OK)
	p.answers(seals(), 0, api.OK)
	p.answers(appends("up 7", "x"), 5, api.OK)
	for _, n := range []int{math.MinInt, -1, 0, 3} {
		p.answers(drops(n), 0, api.OK)
	}
	p.answers(drops(4), 4, api.OK)
	wants("dropped", 4, 5, 1)
	p.answers(drops(4), 0, api.OK)
	p.answers(drops(math.MaxInt), 1, api.OK)
	wants("all dropped", 5, 5, 0)
	if l := p.w.Lines(); !slices.Equal(l, []string{"up 7", "x"}) {
		t.Errorf("%q", l)
	}
}

// kinds is a step of each kind, and others that are none; each has all that one may have.
func kinds() []world.Step {
	var l []world.Step
	for _, kind := range []int{0, 1, 2, 3, 4, 5, 6, 7, 8, 9, 10, -1, -7, 1 << 32, 1<<32 + 2, math.MinInt, math.MaxInt} {
		l = append(l, world.Step{Kind: kind, N: -1, Lines: []string{"new"}, Picks: []int{1}})
	}
	return l
}

// P24.1: a kind that is none errs, whether one is up or none is; nothing changes by it.
func TestNoKind(t *testing.T) {
	p := made(t, 100, appends("a", "b"), syncs(), appends("c"))
	for range 2 {
		for _, s := range kinds() {
			if s.Kind < 1 || s.Kind > 8 {
				p.answers(s, 0, api.ErrArg)
			}
		}
		p.run(crashes())
	}
}

// P24.1: each kind, when none is up.
func TestDown(t *testing.T) {
	p := made(t, 100, appends("a", "b"), seals(), appends("c"), syncs(), appends("d"), crashes())
	if p.w.Up() || p.w.Engine() != nil || len(p.w.Lines()) > 0 || p.w.Disk().Len() != 100 {
		t.Error(p.w.Up(), p.w.Engine(), p.w.Lines())
	}
	for _, s := range []world.Step{appends(), appends("x"), appends(strings.Repeat("x", 300)), syncs(), seals(), compacts(), drops(0), drops(2), drops(-1)} {
		p.answers(s, 0, api.ErrArg)
	}
	for _, s := range []world.Step{fuses(3), fuses(0), fuses(-1), crashes(), crashes(1, 2), fuses(0)} {
		p.answers(s, 0, api.OK)
	}
	// To open writes nothing: the fuse, burnt as it is, does not stop it.
	p.answers(opens(), 0, api.OK)
	if !p.w.Up() || !slices.Equal(p.w.Lines(), []string{"a", "b", "c"}) {
		t.Error(p.w.Up(), p.w.Lines())
	}
	p.answers(appends("e"), 3, api.OK)
	p.answers(syncs(), 0, api.ErrDead)
}

// P24.1: an Open when one is up, a dead one too, errs; when none is up, it is up.
func TestOpen(t *testing.T) {
	p := made(t, 100, appends("a"), syncs(), appends("b"))
	p.answers(opens(), 0, api.ErrArg)
	p.answers(opens(), 0, api.ErrArg)
	if l := p.w.Lines(); !slices.Equal(l, []string{"a", "b"}) {
		t.Error(l)
	}
	p.run(fuses(1))
	p.answers(seals(), 0, api.ErrDead)
	if !p.w.Up() || !p.w.Engine().Dead() {
		t.Error("a dead one is not up")
	}
	p.answers(opens(), 0, api.ErrArg)
	for _, s := range []world.Step{appends("x"), appends(), syncs(), seals(), compacts(), drops(0)} {
		p.answers(s, 0, api.ErrDead)
	}
	if l := p.w.Lines(); !slices.Equal(l, []string{"a", "b"}) {
		t.Error(l)
	}
	p.run(crashes(), opens())
	p.answers(opens(), 0, api.ErrArg)
	if l := p.w.Lines(); !slices.Equal(l, []string{"a"}) || p.w.Engine().Dead() {
		t.Error(l)
	}
}

// spoil writes over some sectors of both disks, and flushes.
func (p *pair) spoil(from, to int) {
	for _, d := range []*sector.Disk{p.w.Disk(), p.m.disk} {
		for i := from; i < to; i++ {
			d.Write(i, 0xff, byte(i))
		}
		d.Flush()
	}
}

// P24.1: an Open of a disk on which no store is: none is up, and it may be tried again.
func TestOpenOfNone(t *testing.T) {
	for _, at := range [][2]int{{0, 32}, {0, 100}, {32, 100}} {
		p := made(t, 100, appends("a"), seals(), appends("b"), syncs(), crashes())
		p.spoil(at[0], at[1])
		for range 2 {
			p.answers(opens(), 0, api.ErrForm)
			if p.w.Up() || p.w.Engine() != nil || len(p.w.Lines()) > 0 {
				t.Error("it is up")
			}
			p.answers(appends("x"), 0, api.ErrArg)
			p.run(crashes())
		}
	}
}

// P24.1: a Crash picks what becomes of each sector that waits, when one is up, and when none is.
func TestCrash(t *testing.T) {
	rows := [][]int{nil, {0}, {1}, {2}, {3}, {0, 1}, {1, 0, 1}, {-1, 1}, {1, -1, 2, 3, 1}, {math.MaxInt, math.MinInt, math.MaxInt}, slices.Repeat([]int{1}, 100), slices.Repeat([]int{2}, 17), slices.Repeat([]int{1, 0}, 30)}
	for _, picks := range rows {
		p := made(t, 100, appends("a", "b"), syncs(), appends("c"))
		p.run(fuses(12))
		p.answers(syncs(), 0, api.ErrDead)
		p.run(crashes(picks...))
		if p.w.Up() || len(p.w.Disk().Waiting()) > 0 {
			t.Error("it is up, or something waits")
		}
		// What is written when none is up waits as well.
		for _, d := range []*sector.Disk{p.w.Disk(), p.m.disk} {
			d.Write(90, 1)
			d.Write(90, 2)
			d.Write(91, 3)
		}
		p.run(crashes(picks...), opens(), appends("d"), syncs())
		if !slices.Contains(p.w.Lines(), "b") {
			t.Error(p.w.Lines())
		}
	}
	p := fresh(t, 64)
	p.w.Disk().Write(60, 1)
	p.m.disk.Write(60, 1)
	p.run(crashes(), crashes(1))
	p.w.Disk().Write(60, 1)
	p.m.disk.Write(60, 1)
	p.run(crashes(1))
	if b, _ := p.w.Disk().Read(60); b[0] != 1 {
		t.Error(b)
	}
}

// P24.1: a fuse is the disk's: of so many writes and flushes, till a Crash or another one.
func TestFuse(t *testing.T) {
	for _, n := range []int{0, 1, 5, 18, 19, 200, -1, math.MinInt, math.MaxInt} {
		p := made(t, 100, appends("a"))
		p.answers(fuses(n), 0, api.OK)
		want := api.OK
		// A batch in one sector, a Flush, a slot, a Flush.
		if n >= 0 && n < 19 {
			want = api.ErrDead
		}
		p.answers(syncs(), 0, want)
		p.run(crashes(), opens(), appends("b"), syncs())
	}
	p := made(t, 100, appends("a"), fuses(0), fuses(-1), syncs(), appends("b"), fuses(-5), syncs(), appends("c"), fuses(0), crashes(), opens(), appends("d"), syncs())
	if l := p.w.Lines(); !slices.Equal(l, []string{"a", "b", "d"}) {
		t.Error(l)
	}
}

// P24.1: of none, of one, of several: as the same Do one by one, and on behind an error.
func TestRun(t *testing.T) {
	steps := []world.Step{appends("up 3", "up 4"), syncs(), opens(), appends(strings.Repeat("x", 257)), appends("x"), seals(), {Kind: 99}, compacts(), appends("y"), seals(), compacts(), drops(1), drops(3), appends("z"), fuses(7), syncs(), seals(), crashes(1), seals(), opens(), opens(), appends("last"), syncs()}
	want := []api.Errno{0, 0, 1, 3, 0, 0, 1, 0, 0, 0, 0, 0, 0, 0, 0, 6, 6, 0, 1, 0, 1, 0, 0}
	for n := range len(steps) + 1 {
		one, all := fresh(t, 200), fresh(t, 200)
		for _, s := range steps[:n] {
			one.do(s)
			all.m.do(s)
		}
		if got := all.w.Run(steps[:n]...); !slices.Equal(got, want[:n]) {
			t.Errorf("Run of %d: %v, want %v", n, got, want[:n])
		}
		all.wants("Run")
		wantsDisk(t, "Run", all.w.Disk(), one.w.Disk())
		if rest := all.w.Run(steps[n:]...); !slices.Equal(rest, want[n:]) {
			t.Errorf("Run of those behind %d: %v, want %v", n, rest, want[n:])
		}
	}
	p := fresh(t, 64)
	if got := p.w.Run(); len(got) > 0 {
		t.Error(got)
	}
	if got := p.w.Run(drops(5)); !slices.Equal(got, []api.Errno{0}) {
		t.Error(got)
	}
	p.wants("Run")
}

// P24.1: the engine is one of the store that is up, the disk the one that it is on.
func TestEngine(t *testing.T) {
	p := made(t, 100, appends("up 3", "down", "up 4"))
	e := p.w.Engine()
	if got := e.ByField(api.TokNumber, "4"); !slices.Equal(got, []int{2}) || e.Count() != 3 {
		t.Error(got, e.Count())
	}
	if n, err := e.Append("more"); n != 3 || err != api.OK {
		t.Error(n, err)
	}
	if l := p.w.Lines(); !slices.Equal(l, []string{"up 3", "down", "up 4", "more"}) {
		t.Error(l)
	}
	if _, err := p.w.Do(syncs()); err != api.OK || e.Synced() != 4 {
		t.Error(err, e.Synced())
	}
	p.w.Disk().Fuse(0)
	if _, err := p.w.Do(seals()); err != api.ErrDead {
		t.Error(err)
	}
	p.w.Do(crashes())
	p.w.Do(opens())
	if got := p.w.Engine().ByField(api.TokWord, "more"); !slices.Equal(got, []int{3}) {
		t.Error(got)
	}
}

// P24.2: a nil World.
func TestNil(t *testing.T) {
	var w *world.World
	for _, s := range kinds() {
		if n, e := w.Do(s); n != 0 || e != api.ErrArg {
			t.Errorf("%v: %d, error %d", s, n, e)
		}
	}
	if len(w.Run()) > 0 || len(w.Run(syncs(), crashes())) > 0 || w.Up() || w.Engine() != nil || w.Disk() != nil || len(w.Lines()) > 0 {
		t.Error(w.Run(syncs()), w.Up(), w.Engine(), w.Disk(), w.Lines())
	}
}

// W1: a World that New did not make.
func TestNoDisk(t *testing.T) {
	w := &world.World{}
	w.Run(kinds()...)
	w.Up()
	w.Engine()
	w.Disk()
	w.Lines()
}

// W6: what is handed in is neither changed nor kept, spare room too.
func TestMemoryOfSteps(t *testing.T) {
	p := fresh(t, 100)
	lines := append(make([]string, 0, 4), "up 3", "down")
	lines[:3][2] = "spare"
	picks := append(make([]int, 0, 4), 1, -1)
	picks[:3][2] = 7
	steps := append(make([]world.Step, 0, 8), appends(lines...), syncs(), appends("x"), fuses(3), syncs(), crashes(picks...))
	steps[0].Lines, steps[5].Picks = lines, picks
	before := fmt.Sprint(steps[:8], lines[:4], picks[:4])
	p.w.Run(steps...)
	if fmt.Sprint(steps[:8], lines[:4], picks[:4]) != before {
		t.Error(steps[:8], lines[:4], picks[:4])
	}
	for i := range 4 {
		lines[:4][i], picks[:4][i] = "spoilt", 9
	}
	p.w.Do(opens())
	steps[0].Lines[0] = "spoilt"
	if l := p.w.Lines(); !slices.Equal(l, []string{"up 3", "down"}) {
		t.Error(l)
	}
	lines = []string{"in the memory"}
	p.w.Do(appends(lines...))
	p.w.Do(world.Step{Kind: world.StepAppend, Lines: lines})
	lines[0] = "spoilt"
	if l := p.w.Lines(); !slices.Equal(l, []string{"up 3", "down", "in the memory", "in the memory"}) {
		t.Error(l)
	}
}

// W6, W7: what is answered is new memory, and stays what it is.
func TestMemoryOfAnswers(t *testing.T) {
	p := made(t, 100, appends("up 3", "down"), seals(), appends("x"), syncs(), appends("y"))
	want := []string{"up 3", "down", "x", "y"}
	kept := p.w.Lines()
	l := p.w.Lines()
	for i := range l[:cap(l)] {
		l[:cap(l)][i] = "spoilt"
	}
	if got := p.w.Lines(); !slices.Equal(got, want) {
		t.Error(got)
	}
	errs := p.w.Run(syncs(), syncs())
	more := p.w.Run(opens())
	for i := range errs[:cap(errs)] {
		errs[:cap(errs)][i] = 77
	}
	if !slices.Equal(more, []api.Errno{api.ErrArg}) {
		t.Error(more)
	}
	p.w.Run(drops(2), appends("z"), crashes(), opens())
	if !slices.Equal(kept, want) || !slices.Equal(p.w.Lines(), []string{"x", "y"}) {
		t.Error(kept, p.w.Lines())
	}
}

// P24.2: what is told depends on the sectors and the steps alone: worlds in several goroutines are the same.
func TestTogether(t *testing.T) {
	var all sync.WaitGroup
	for range 4 {
		all.Go(func() {
			p := fresh(t, 200)
			for _, s := range []world.Step{appends("up 3", "up 4"), seals(), appends("x"), syncs(), compacts(), seals(), compacts(), appends("y"), fuses(9), syncs(), crashes(1, 0, 1), opens(), drops(3), appends("z")} {
				p.do(s)
			}
		})
	}
	all.Wait()
}
