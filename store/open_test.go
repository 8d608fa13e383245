package store_test

import (
	"fmt"
	"slices"
	"testing"

	"winnower/api"
	"winnower/manifest"
	"winnower/sector"
	"winnower/segment"
	"winnower/store"
	"winnower/super"
	"winnower/tree"
	"winnower/vault"
	"winnower/wal"
)

// P22.1: a disk that is none, is too small, is just large enough.
func TestFormat(t *testing.T) {
	if s, e := store.Format(nil); e != api.ErrArg || s != nil {
		t.Error(e, s)
	}
	for _, n := range []int{1, 2, 16, slots - 1} {
		if s, e := store.Format(newDisk(t, n)); e != api.ErrArg || s != nil {
			t.Errorf("%d sectors: error %d", n, e)
		}
	}
	d := newDisk(t, slots)
	if s, e := store.Format(d); e != api.ErrFull || s != nil {
		t.Errorf("%d sectors: error %d", slots, e)
	}
	for _, n := range []int{slots + 1, slots + 2, 64, api.MaxDisk} {
		p := fresh(t, n)
		if p.s.First() != 0 || p.s.End() != 0 || p.s.Synced() != 0 || p.s.Templates() != 1 || len(p.s.Spans()) != 0 || p.s.Free() != n-slots-1 || p.s.Dead() {
			t.Errorf("%d sectors: %v", n, tellStore(p.s))
		}
		p.reopen()
	}
	// With one sector there is no room for a second manifest, nor for a batch, but lines may be appended.
	p := fresh(t, slots+1)
	p.run(appends("a", "b 3"), drops(9), compacts)
	p.wantsErr(syncs, api.ErrFull)
	p.wantsErr(seals, api.ErrFull)
	p.run(appends("c"))
}

// P22.1: what Format lays, whatever was there.
func TestFormatLays(t *testing.T) {
	p := made(t, 100, appends("a", "b"), syncs, appends("c"), seals, appends("d"), syncs)
	s, e := store.Format(p.d)
	if e != api.OK {
		t.Fatal(e)
	}
	m := newModel(100)
	m.wantsTold(t, "formatted again", s)
	m.wantsBlobs(t, "formatted again", p.d)
	v, _ := vault.Open(p.d)
	data, _ := v.Get("m")
	got, e := manifest.Decode(data)
	if e != api.OK || !manifest.Same(got, manifest.Manifest{Next: 1, Tree: tree.New().Encode()}) {
		t.Error(e, got)
	}
	if w := p.d.Waiting(); len(w) > 0 {
		t.Errorf("%v wait", w)
	}
	root, _ := super.Open(p.d)
	if root.Number() != 2 {
		t.Errorf("%d Commits", root.Number())
	}
}

// P22.1: the fuse burns at each write and flush of a Format.
func TestFormatByTheFuse(t *testing.T) {
	for n := 0; ; n++ {
		d, twin := newDisk(t, 40), newDisk(t, 40)
		d.Fuse(n)
		twin.Fuse(n)
		v, want := vault.Format(twin)
		if want == api.OK {
			want = v.Commit(nil, newModel(40).root())
		}
		s, e := store.Format(d)
		if e != want || (s == nil) != (want != api.OK) {
			t.Errorf("a fuse of %d: error %d, want %d", n, e, want)
		}
		wantsDisk(t, n, d, twin)
		if want == api.OK {
			return
		}
	}
}

// P22.1: the vault's errors.
func TestOpenNoVault(t *testing.T) {
	if s, e := store.Open(nil); e != api.ErrArg || s != nil {
		t.Error(e, s)
	}
	for n, want := range map[int]api.Errno{1: api.ErrArg, slots - 1: api.ErrArg, slots: api.ErrForm, slots + 1: api.ErrForm, 64: api.ErrForm} {
		if s, e := store.Open(newDisk(t, n)); e != want || s != nil {
			t.Errorf("%d sectors: error %d, want %d", n, e, want)
		}
	}
	d := newDisk(t, 64)
	super.Format(d, []byte("none"))
	if s, e := store.Open(d); e != api.ErrForm || s != nil {
		t.Error(e, s)
	}
}

// rich is a model of three segments, three batches, and a tree.
func rich(t *testing.T) model {
	t.Helper()
	p := made(t, 300, append(counted(5, 3, 4), drops(5), appends("up 3", "new one"), syncs, appends("up 4"), syncs, appends("a b c 9", "", "x"), syncs)...)
	return p.m.opened(t)
}

// P22.1: a disk as the calls leave it.
func TestOpen(t *testing.T) {
	wantsOpen(t, "formatted", newModel(64), newModel(64).blobs()...)
	m := rich(t)
	wantsOpen(t, "rich", m, m.blobs()...)
	wantsOpen(t, "blobs in another order", m, turned(m.blobs())...)
	p := pairOf(t, m)
	if p.s.Synced() != p.s.End() || p.s.End() != 18 {
		t.Error(p.s.Synced(), p.s.End())
	}
	p.run(syncs, appends("more", "up 5"), syncs, compacts, drops(10), seals, compacts, drops(12))
	p.reopen()
}

func turned(l []vault.Blob) []vault.Blob {
	l = slices.Clone(l)
	slices.Reverse(l)
	return l
}

// P22.1: no manifest, and one that is none.
func TestOpenManifest(t *testing.T) {
	m := rich(t)
	good := m.root().Data
	wantsNoOpen(t, "no blob", 64)
	wantsNoOpen(t, "no manifest", m.size, without(m.blobs(), "m")...)
	for _, data := range [][]byte{nil, {}, {0}, good[:len(good)-1], append(slices.Clone(good), 0), m.batch(12, 14).Data, m.segment(m.spans[0]).Data} {
		wantsNoOpen(t, "another manifest", m.size, with(m.blobs(), vault.Blob{Name: "m", Data: data})...)
	}
	for at := range good {
		spoilt := slices.Clone(good)
		spoilt[at] ^= 1 << (at % 8)
		wantsNoOpen(t, at, m.size, with(m.blobs(), vault.Blob{Name: "m", Data: spoilt})...)
	}
	wantsNoOpen(t, "under another name", m.size, with(without(m.blobs(), "m"), vault.Blob{Name: "n", Data: good})...)
	wantsNoOpen(t, "twice", m.size, with(m.blobs(), vault.Blob{Name: "m0", Data: good})...)
}

// P22.1: what the vault says is spoilt: the manifest, a segment, a batch.
func TestOpenSpoilt(t *testing.T) {
	m := rich(t)
	blobs := m.blobs()
	for at, b := range blobs {
		d := laid(t, m.size, blobs...)
		v, _ := vault.Open(d)
		i := slices.Index(v.Owner(), b.Name)
		row, _ := d.Read(i)
		row[3] ^= 1
		d.Write(i, row...)
		if s, e := store.Open(d); e != api.ErrForm || s != nil {
			t.Errorf("blob %d, %s: error %d", at, b.Name, e)
		}
	}
}

// P22.1: a Span without its segment, or with another one, whether there are batches or not.
func TestOpenSegments(t *testing.T) {
	wantsNoOtherSegments(t, rich(t))
	wantsNoOtherSegments(t, made(t, 300, append(counted(5, 3, 4), drops(5))...).m)
}

func wantsNoOtherSegments(t *testing.T, m model) {
	t.Helper()
	wantsOpen(t, "good", m, m.blobs()...)
	for k, s := range m.spans {
		name := wal.Name('s', s.ID)
		good := m.assigned(s.First, s.First+s.Count)
		wantsNoOpen(t, name, m.size, without(m.blobs(), name)...)
		put := func(what string, first int, lines []api.Assigned) {
			t.Helper()
			data, e := segment.Encode(segment.Segment{First: first, Lines: lines})
			if e != api.OK {
				t.Fatal(e)
			}
			wantsNoOpen(t, fmt.Sprint(name, " ", what), m.size, with(m.blobs(), vault.Blob{Name: name, Data: data})...)
		}
		put("of another First", s.First+1, good)
		put("of another First", s.First-1, good)
		put("of another First", 0, good)
		put("of fewer lines", s.First, good[1:])
		put("of fewer lines", s.First, good[:len(good)-1])
		put("of more lines", s.First, append(slices.Clip(good), good[0]))
		wantsNoOpen(t, name, m.size, with(m.blobs(), vault.Blob{Name: name})...)
		wantsNoOpen(t, name, m.size, with(m.blobs(), vault.Blob{Name: name, Data: lineBatch(t, s.First, s.Count).Data})...)
		wantsNoOpen(t, name, m.size, with(m.blobs(), vault.Blob{Name: name, Data: m.segment(m.spans[1-k]).Data})...)
		data := m.segment(s).Data
		wantsNoOpen(t, name, m.size, with(m.blobs(), vault.Blob{Name: name, Data: data[:len(data)-1]})...)
		wantsNoOpen(t, name, m.size, with(m.blobs(), vault.Blob{Name: name, Data: append(data, 0)})...)
		// A blob with a segment that no Span has.
		wantsNoOpen(t, "no Span's", m.size, with(m.blobs(), vault.Blob{Name: "s99", Data: data})...)
		wantsNoOpen(t, "no Span's", m.size, with(m.blobs(), vault.Blob{Name: "s1", Data: data})...)
		wantsNoOpen(t, "under another name", m.size, with(without(m.blobs(), name), vault.Blob{Name: "s" + name, Data: data})...)
	}
}

// P22.1: an ID that the tree has not, too few or too many Vars: at each line.
func TestOpenLines(t *testing.T) {
	m := rich(t)
	kept, e := tree.Decode(m.kept)
	if e != api.OK {
		t.Fatal(e)
	}
	for _, s := range m.spans {
		for at := range s.Count {
			lines := slices.Clone(m.assigned(s.First, s.First+s.Count))
			try := func(a api.Assigned, good bool) {
				t.Helper()
				lines[at] = a
				data, e := segment.Encode(segment.Segment{First: s.First, Lines: lines})
				if e != api.OK {
					t.Fatal(e)
				}
				blobs := with(m.blobs(), vault.Blob{Name: wal.Name('s', s.ID), Data: data})
				if !good {
					wantsNoOpen(t, a, m.size, blobs...)
					return
				}
				st, e := store.Open(laid(t, m.size, blobs...))
				if e != api.OK {
					t.Errorf("%v: error %d", a, e)
					return
				}
				if got, _ := st.Assigned(s.First + at); tellLine(got) != tellLine(a) {
					t.Errorf("%v is told as %v", a, got)
				}
			}
			for _, id := range []int{0, 1 + at%(kept.Len()-2), kept.Len() - 1, kept.Len(), kept.Len() + 1, 63} {
				for n := range 4 {
					try(api.Assigned{ID: id, Vars: make([]string, n)}, id < kept.Len() && n == wild(t, kept, min(id, kept.Len()-1)))
				}
			}
			try(api.Assigned{ID: 0, Vars: []string{"anything"}}, true)
			try(api.Assigned{ID: 0, Vars: make([]string, 64)}, false)
		}
	}
	// The tree that counts is the manifest's, not that of the lines in the memory too.
	if kept.Len() >= m.tree.Len() {
		t.Fatal("the memory's lines have brought no template")
	}
}

// P22.1: all other blobs are batches, each under the number of its First.
func TestOpenBatches(t *testing.T) {
	m := rich(t)
	blobs := m.blobs()
	good := m.batch(12, 14).Data
	for _, data := range [][]byte{nil, {}, {0}, good[:len(good)-1], append(slices.Clone(good), 0), m.root().Data, m.segment(m.spans[0]).Data} {
		for _, name := range []string{"wc", "we", "wf"} {
			wantsNoOpen(t, "no batch", m.size, with(blobs, vault.Blob{Name: name, Data: data})...)
		}
	}
	for _, name := range []string{"w", "wd", "w0", "w00c", "w0c", "x", "xc", "vc", "ac", "mc", "m", "sc", "s12", "c", "12", "w12", "wcc", "0", "wzzzzzzz", "zc"} {
		wantsNoOpen(t, name, m.size, with(without(blobs, "wc"), vault.Blob{Name: name, Data: good})...)
		if name != "m" {
			wantsNoOpen(t, name, m.size, with(blobs, vault.Blob{Name: name, Data: good})...)
			wantsNoOpen(t, name, m.size, with(blobs, vault.Blob{Name: name})...)
			wantsNoOpen(t, name, m.size, with(newModel(300).blobs(), vault.Blob{Name: name, Data: good})...)
		}
	}
	// The name tells another number than the batch.
	last := m.batch(15, 18).Data
	wantsNoOpen(t, "two names changed", m.size, with(blobs, vault.Blob{Name: "wc", Data: last}, vault.Blob{Name: "wf", Data: good})...)
}

// lineBatch is a batch of n lines, under its name.
func lineBatch(t *testing.T, first, n int) vault.Blob {
	t.Helper()
	data, e := wal.Encode(wal.Batch{First: first, Lines: numbered(n, first)})
	if e != api.OK {
		t.Fatal(e)
	}
	return vault.Blob{Name: wal.Name('w', first), Data: data}
}

// batched is a model that begins at a number, with batches of so many lines.
func batched(first int, counts ...int) model {
	m := at(600, first, 9)
	for _, n := range counts {
		m.begins = append(m.begins, m.end())
		for _, line := range numbered(n, m.end()) {
			m = m.lay(line)
		}
	}
	m.synced = m.end()
	return m
}

// P22.1: their Chain begins at the manifest's End; no gap, no overlap.
func TestOpenChain(t *testing.T) {
	for _, first := range []int{0, 7, 30, 35, 36, 100, 1295, 1 << 34} {
		for _, counts := range [][]int{{}, {1}, {3, 4}, {1, 1, 1, 1}, {30, 7, 2, 25}} {
			m := batched(first, counts...)
			wantsOpen(t, counts, m, m.blobs()...)
		}
	}
	root := at(600, 30, 9).root()
	for _, l := range [][][2]int{
		{{29, 3}}, {{31, 3}}, {{0, 3}}, {{27, 3}}, {{30, 3}, {34, 2}}, {{30, 3}, {32, 2}}, {{30, 3}, {31, 2}}, {{30, 3}, {33, 2}, {36, 1}}, {{30, 3}, {33, 2}, {34, 1}},
		{{33, 2}}, {{30, 1}, {1080, 1}}, {{0, 1}, {30, 1}}, {{29, 1}, {30, 1}}, {{30, 64}, {95, 1}},
	} {
		blobs := []vault.Blob{root}
		for _, b := range l {
			blobs = append(blobs, lineBatch(t, b[0], b[1]))
		}
		wantsNoOpen(t, l, 600, blobs...)
	}
	// They begin behind the segments, not at First.
	m := made(t, 300, appends("a", "b"), seals, appends("c"), seals).m
	wantsNoOpen(t, "at First", 300, append(m.blobs(), lineBatch(t, 0, 2))...)
	wantsNoOpen(t, "at the second Span", 300, append(m.blobs(), lineBatch(t, 2, 2))...)
	wantsNoOpen(t, "behind End", 300, append(m.blobs(), lineBatch(t, 4, 2))...)
}

// P22.1: they are taken by their numbers, not by their names: w10 is behind w9, and wz.
func TestOpenOrder(t *testing.T) {
	var ones []int
	for range 50 {
		ones = append(ones, 1)
	}
	m := batched(5, ones...)
	m.size = 1000
	wantsOpen(t, "fifty", m, m.blobs()...)
	m = batched(30, 3, 2, 1, 5, 4)
	p := pairOf(t, m)
	p.run(appends("up 1"), syncs, seals)
	p.reopen()
}

// P22.1: MaxMem lines in batches, and one more.
func TestOpenMaxMem(t *testing.T) {
	for _, counts := range [][]int{{64}, {63, 1}, {1, 63}, {32, 32}, {60}} {
		m := batched(3, counts...)
		wantsOpen(t, counts, m, m.blobs()...)
	}
	for _, counts := range [][]int{{64, 1}, {1, 64}, {33, 32}, {64, 64}, {20, 20, 20, 5}} {
		m := batched(3, counts...)
		wantsNoOpen(t, counts, 600, m.blobs()...)
	}
	p := pairOf(t, batched(3, 60, 4))
	p.wantsErr(appends("a"), api.ErrLimit)
	p.run(appends(), seals, appends("a"))
}

// P22.1: lines that were synced come out as they did, on the manifest's tree; those that were not leave no trace.
func TestOpenAssigns(t *testing.T) {
	p := made(t, 300, appends("up 3", "go a b c", "go a b d"), seals, appends("go x b c", "new 1"), syncs, appends("lost one", "up down", "go a y z"))
	lost := p.s.Templates()
	p.reopen()
	if p.s.Templates() >= lost || p.s.End() != 5 {
		t.Error(p.s.Templates(), lost, p.s.End())
	}
	p.run(appends("other one", "up away"), syncs, appends("lost again"), compacts, drops(3))
	p.reopen()
	p.run(seals)
	p.reopen()
}

// W9: a crash meanwhile takes nothing of what was done, and a store that is not dead goes on.
func TestCrashMeanwhile(t *testing.T) {
	p := fresh(t, 400)
	for n := range 12 {
		p.d.Crash(1, 0, 1)
		p.twin.Crash(1, 0, 1)
		p.wants("a crash")
		p.run(appends(numbered(3, n)...), []step{syncs, seals, compacts}[n%3])
	}
}

// P22.5: the Disk alone is kept: two stores on copies go on apart.
func TestCopies(t *testing.T) {
	p := made(t, 200, appends("a", "b 3"), syncs, appends("c"), seals, appends("d"), syncs)
	d := p.d.Copy()
	a := p.m
	p.run(appends("e"), seals, compacts)
	s, e := store.Open(d)
	if e != api.OK {
		t.Fatal(e)
	}
	a.opened(t).wantsTold(t, "the copy", s)
	p.wants("the first one")
	var none *sector.Disk
	if s, e := store.Open(none.Copy()); e != api.ErrArg || s != nil {
		t.Error(e)
	}
}
