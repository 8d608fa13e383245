package store_test

import (
	"fmt"
	"math"
	"slices"
	"testing"

	"winnower/api"
	"winnower/manifest"
	"winnower/part"
	"winnower/segment"
	"winnower/store"
	"winnower/tree"
	"winnower/vault"
	"winnower/wal"
)

// The example: P22.5.
func TestExample(t *testing.T) {
	d := newDisk(t, 64)
	s, e := store.Format(d)
	if e != api.OK {
		t.Fatal(e)
	}
	if n, e := s.Append("a", "b"); n != 0 || e != api.OK {
		t.Error(n, e)
	}
	if e := s.Sync(); e != api.OK {
		t.Error(e)
	}
	if n, e := s.Append("c"); n != 2 || e != api.OK {
		t.Error(n, e)
	}
	d.Crash()
	if s, e = store.Open(d); e != api.OK || s.End() != 2 {
		t.Error(e, s.End())
	}
}

// P22.2: none, one, several: the first one's number; each by its template and its variables.
func TestAppend(t *testing.T) {
	p := fresh(t, 64)
	for _, at := range []struct {
		lines []string
		n     int
	}{{nil, 0}, {[]string{}, 0}, {[]string{"up 3"}, 0}, {nil, 1}, {[]string{"up 4", "", "down"}, 1}, {[]string{"\xff\x00\n"}, 4}, {[]string{"up x", "up y z", "7"}, 5}, {nil, 8}} {
		if n, e := p.do(appends(at.lines...)); n != at.n || e != api.OK {
			t.Errorf("%q: %d, error %d, want %d", at.lines, n, e, at.n)
		}
	}
	for i, want := range []struct {
		id   int
		vars []string
	}{{1, []string{"3"}}, {1, []string{"4"}}, {0, []string{""}}, {2, nil}} {
		if a, e := p.s.Assigned(i); e != api.OK || a.ID != want.id || !slices.Equal(a.Vars, want.vars) {
			t.Errorf("line %d: error %d, %v, want %v", i, e, a, want)
		}
	}
	if line, e := p.s.Line(4); e != api.OK || line != "\xff\x00\n" {
		t.Errorf("error %d, %q", e, line)
	}
	if template, ok := p.s.Template(1); !ok || !part.Same(template, api.Template{{Text: "up"}, {Text: " "}, {Any: true}}) {
		t.Errorf("%v", template)
	}
	if p.s.Synced() != 0 || p.s.End() != 8 || p.s.First() != 0 || len(p.s.Spans()) != 0 {
		t.Error(p.s.Synced(), p.s.End(), p.s.First(), p.s.Spans())
	}
}

// P22.2: a line of MaxLine bytes, and of one more: then none of them is there.
func TestAppendLong(t *testing.T) {
	p := made(t, 200, appends("up 3"), syncs, appends("up 4"))
	for _, n := range []int{257, 258, 1000, 1 << 20} {
		p.wantsErr(appends(long(n)), api.ErrLong)
		p.wantsErr(appends("a", long(n)), api.ErrLong)
		p.wantsErr(appends(long(n), "a"), api.ErrLong)
		p.wantsErr(appends("new 1", long(n), "new 2"), api.ErrLong)
	}
	p.run(appends(long(256)), appends("a b c", long(256), long(255)), syncs, appends("new 3"))
}

// P22.2: MaxMem lines, and one more; ErrLong ahead of that.
func TestAppendMany(t *testing.T) {
	for _, n := range []int{0, 1, 2, 63} {
		p := made(t, 64, appends(numbered(n, 0)...))
		p.wantsErr(appends(numbered(65-n, n)...), api.ErrLimit)
		p.wantsErr(appends(numbered(200, n)...), api.ErrLimit)
		p.wantsErr(appends(append(numbered(200, n), long(257))...), api.ErrLong)
		p.run(appends(numbered(64-n, n)...), appends())
		p.wantsErr(appends("one more"), api.ErrLimit)
		p.wantsErr(appends(""), api.ErrLimit)
		p.wantsErr(appends(long(257)), api.ErrLong)
		p.run(syncs)
		p.wantsErr(appends("one more"), api.ErrLimit)
		p.run(seals, appends("one more"))
	}
	p := fresh(t, 64)
	p.wantsErr(appends(make([]string, 65)...), api.ErrLimit)
	p.run(appends(make([]string, 64)...))
}

// P22.2: OK, if all are synced; else one batch of those that are not.
func TestSync(t *testing.T) {
	p := made(t, 64, syncs, syncs, appends("up 3", "up 4"), syncs, syncs, appends(), syncs, appends("down"), appends("up 5", ""), syncs, syncs)
	if got := p.m.begins; !slices.Equal(got, []int{0, 2}) || p.s.Synced() != 5 {
		t.Error(got, p.s.Synced())
	}
	p.m.wantsBlobs(t, "two batches", p.d)
	p.run(appends("not synced"))
	if p.s.Synced() != 5 || p.s.End() != 6 {
		t.Error(p.s.Synced(), p.s.End())
	}
	p.reopen()
	if p.s.Synced() != 5 || p.s.End() != 5 {
		t.Error(p.s.Synced(), p.s.End())
	}
	p.run(syncs, appends("up 6"), syncs)
	p.reopen()
	v, _ := vault.Open(p.d)
	if got := v.Names(); !slices.Equal(got, []string{"m", "w0", "w2", "w5"}) {
		t.Error(got)
	}
	if data, _ := v.Get("w2"); true {
		if b, e := wal.Decode(data); e != api.OK || b.First != 2 || !slices.Equal(b.Lines, []string{"down", "up 5", ""}) {
			t.Error(e, b)
		}
	}
}

// P22.2: a Sync that has nothing to do writes nothing.
func TestIdle(t *testing.T) {
	p := made(t, 128, appends("up 3"), seals, appends("up 4"), syncs)
	for _, c := range []step{syncs, drops(0), appends(), appends("x"), compacts} {
		q := made(t, 128, appends("up 3"), seals, appends("up 4"), syncs)
		q.d.Fuse(0)
		q.twin.Fuse(0)
		q.run(c)
	}
	p.run(seals, seals, syncs, seals)
	p.d.Fuse(0)
	p.twin.Fuse(0)
	p.run(seals, syncs, seals, drops(0))
}

// P22.3: nothing in the memory, some, with batches ahead.
func TestSeal(t *testing.T) {
	p := made(t, 128, seals, appends("up 3", "down"), seals, seals)
	if got := p.s.Spans(); !slices.Equal(got, []api.Span{{ID: 1, First: 0, Count: 2}}) || p.s.Synced() != 2 {
		t.Error(got, p.s.Synced())
	}
	p.m.wantsBlobs(t, "one", p.d)
	p.run(appends("up 4"), syncs, appends("up 5", "7"), syncs, appends("x y z"), seals)
	p.m.wantsBlobs(t, "two", p.d)
	if got := p.s.Spans(); !slices.Equal(got, []api.Span{{ID: 1, First: 0, Count: 2}, {ID: 2, First: 2, Count: 4}}) || p.s.Synced() != 6 || p.s.End() != 6 {
		t.Error(got, p.s.Synced(), p.s.End())
	}
	v, _ := vault.Open(p.d)
	if got := v.Names(); !slices.Equal(got, []string{"m", "s1", "s2"}) {
		t.Error(got)
	}
	data, _ := v.Get("s2")
	if one, e := segment.Decode(data); e != api.OK || one.First != 2 || len(one.Lines) != 4 || one.Lines[0].ID != 1 || !slices.Equal(one.Lines[0].Vars, []string{"4"}) {
		t.Error(e, one)
	}
	p.run(appends(numbered(64, 0)...), seals)
	p.reopen()
	p.run(seals, appends("up 9"), seals)
	p.m.wantsBlobs(t, "four", p.d)
}

// P22.4: in a Seal the segment stands ahead of m: it gets the lowest free sectors.
func TestSealOrder(t *testing.T) {
	p := made(t, 64, appends("up 3"), seals)
	v, _ := vault.Open(p.d)
	owner := v.Owner()
	// m lay in sector 32 when its successor was laid: that one is behind the segment.
	if owner[32] != "" || owner[33] != "s1" || owner[34] != "m" {
		t.Error(owner[32:40])
	}
}

// P22.3: the manifest's tree is the one that it had, though the memory's has gone on.
func TestCompact(t *testing.T) {
	p := made(t, 256, compacts, appends("up 3", "up 4"), compacts, seals, compacts, appends("down", "up x", "7"), seals, appends("another one", "a b c"), syncs, appends("never synced"))
	tree1 := manifestOf(t, p)
	if did, e := p.s.Compact(); !did || e != api.OK {
		t.Fatal(did, e)
	}
	if got := p.s.Spans(); !slices.Equal(got, []api.Span{{ID: 3, First: 0, Count: 5}}) {
		t.Error(got)
	}
	m := manifestOf(t, p)
	if m.Next != 4 || m.First != 0 || !slices.Equal(m.Tree, tree1.Tree) || p.s.Templates() <= wildTree(t, m.Tree).Len() {
		t.Error(m, p.s.Templates())
	}
	// The lines in the memory are still there, and still not sealed.
	if p.s.End() != 8 || p.s.Synced() != 7 {
		t.Error(p.s.End(), p.s.Synced())
	}
	p = made(t, 256, appends("up 3", "up 4"), seals, appends("down", "up x", "7"), seals, appends("another one", "a b c"), syncs, appends("never synced"), compacts, compacts)
	p.m.wantsBlobs(t, "compacted", p.d)
	p.reopen()
	p.run(appends("never synced", "another two"), syncs, seals, compacts, compacts)
	p.m.wantsBlobs(t, "compacted again", p.d)
}

func manifestOf(t *testing.T, p *pair) manifest.Manifest {
	t.Helper()
	v, _ := vault.Open(p.d)
	data, _ := v.Get("m")
	m, e := manifest.Decode(data)
	if e != api.OK {
		t.Fatal(e)
	}
	return m
}

func wildTree(t *testing.T, b []byte) *tree.Tree {
	t.Helper()
	k, e := tree.Decode(b)
	if e != api.OK {
		t.Fatal(e)
	}
	return k
}

// P22.3: until nothing is left to do: as chapter 19 picks them.
func TestCompactAll(t *testing.T) {
	p := made(t, 1000, counted(5, 3, 4, 64, 10, 1, 64, 64, 9)...)
	want := [][]int{{5, 7, 64, 10, 1, 64, 64, 9}, {5, 7, 64, 11, 64, 64, 9}, {12, 64, 11, 64, 64, 9}, {12, 64, 11, 64, 73}, {12, 75, 64, 73}, {87, 64, 73}, {87, 137}, {224}}
	for _, counts := range want {
		if n, e := p.do(compacts); n != 1 || e != api.OK {
			t.Fatal(n, e)
		}
		var got []int
		for _, s := range p.s.Spans() {
			got = append(got, s.Count)
		}
		if !slices.Equal(got, counts) {
			t.Errorf("%v, want %v", got, counts)
		}
	}
	if n, e := p.do(compacts); n != 0 || e != api.OK {
		t.Error(n, e)
	}
	p.m.wantsBlobs(t, "one", p.d)
	p.reopen()
}

// P22.3: two of just MaxSeg lines together are one, of one more they are not.
func TestCompactToMaxSeg(t *testing.T) {
	same := func(n int) []step {
		var steps []step
		for range n / 64 {
			steps = append(steps, appends(make([]string, 64)...), seals, compacts)
		}
		return steps
	}
	p := made(t, 200, append(same(448), appends(make([]string, 64)...), seals)...)
	if n, e := p.do(compacts); n != 1 || e != api.OK || len(p.s.Spans()) != 1 || p.s.Spans()[0].Count != 512 {
		t.Error(n, e, p.s.Spans())
	}
	p.run(appends(""), seals)
	if n, e := p.do(compacts); n != 0 || e != api.OK || len(p.s.Spans()) != 2 {
		t.Error(n, e, p.s.Spans())
	}
	p.reopen()
	p.run(appends("a"), seals)
	if n, e := p.do(compacts); n != 1 || e != api.OK || len(p.s.Spans()) != 2 || p.s.Spans()[1].Count != 2 {
		t.Error(n, e, p.s.Spans())
	}
}

// P22.3: nothing, a whole Span, one less than a Span, all, behind all.
func TestDrop(t *testing.T) {
	for _, at := range []struct{ n, count int }{
		{math.MinInt, 0}, {-1, 0}, {0, 0}, {1, 0}, {4, 0}, {5, 5}, {6, 5}, {7, 5}, {8, 8}, {9, 8}, {11, 8}, {12, 12}, {13, 12}, {14, 12}, {1000, 12}, {math.MaxInt, 12},
	} {
		p := made(t, 200, append(counted(5, 3, 4), appends("in the memory", "x 9"), syncs, appends("y"))...)
		if n, e := p.do(drops(at.n)); n != at.count || e != api.OK || p.s.First() != at.count || p.s.End() != 15 || p.s.Synced() != 14 {
			t.Errorf("Drop(%d): %d, error %d, First %d, End %d", at.n, n, e, p.s.First(), p.s.End())
		}
		p.m.wantsBlobs(t, at.n, p.d)
		p.run(drops(at.n), appends("z"))
		p.reopen()
		p.run(seals, compacts, drops(14), drops(15), drops(16))
		p.reopen()
	}
	p := made(t, 100, drops(0), drops(1), drops(math.MaxInt), appends("a"), syncs, drops(1), drops(math.MaxInt))
	if p.s.First() != 0 || p.s.End() != 1 {
		t.Error(p.s.First(), p.s.End())
	}
	p.run(seals, drops(1), appends("b"), seals, appends("c"), drops(2))
	if p.s.First() != 2 || p.s.End() != 3 || len(p.s.Spans()) != 0 {
		t.Error(p.s.First(), p.s.End(), p.s.Spans())
	}
}

// P22.3: what goes gives its sectors back, the lines' templates stay.
func TestDropFrees(t *testing.T) {
	p := made(t, 300, counted(64, 64, 64)...)
	free, templates := p.s.Free(), p.s.Templates()
	p.run(drops(192))
	if p.s.Free() <= free || p.s.Templates() != templates || p.s.Free() != 300-slots-vault.Need(len(p.m.root().Data)) {
		t.Error(free, p.s.Free(), templates, p.s.Templates())
	}
	if _, e := p.s.Line(191); e != api.ErrNone {
		t.Error(e)
	}
}

// at is a model whose manifest tells of no lines, but begins at a number.
func at(size, first, next int) model {
	m := newModel(size)
	m.first, m.next, m.synced = first, next, first
	return m
}

// pairOf is a pair of a disk that has what the model has.
func pairOf(t *testing.T, m model) *pair {
	t.Helper()
	p := &pair{t: t, d: laid(t, m.size, m.blobs()...), twin: laid(t, m.size, m.blobs()...), m: m}
	p.open()
	return p
}

// P22.4: ErrLimit of Seal and Compact, if Next is 2^30, and there is something to do.
func TestLimitOfNext(t *testing.T) {
	p := pairOf(t, at(200, 0, 1<<30))
	p.run(seals, compacts, drops(9), appends("a", "b 3"), compacts, syncs, appends("c"))
	p.wantsErr(seals, api.ErrLimit)
	p.run(syncs, compacts, appends("d"), drops(9))
	p.wantsErr(seals, api.ErrLimit)
	p = pairOf(t, at(200, 7, 1<<30-1))
	p.run(appends("a", "b"), seals)
	if s := p.s.Spans(); len(s) != 1 || s[0].ID != 1<<30-1 {
		t.Error(s)
	}
	p.run(seals, compacts, appends("c"))
	p.wantsErr(seals, api.ErrLimit)
	p.run(drops(9), compacts)
	p.wantsErr(seals, api.ErrLimit)
	p.reopen()
	p = pairOf(t, at(200, 7, 1<<30-2))
	p.run(appends("a", "b"), seals, appends("c"), seals)
	p.wantsErr(compacts, api.ErrLimit)
	p.run(appends("x"), syncs)
	p.wantsErr(compacts, api.ErrLimit)
	p.wantsErr(seals, api.ErrLimit)
	p.run(drops(9), compacts)
	p.reopen()
	p = pairOf(t, at(200, 7, 1<<30-3))
	p.run(appends("a", "b"), seals, appends("c"), seals, compacts, compacts)
	if s := p.s.Spans(); len(s) != 1 || s[0].ID != 1<<30-1 {
		t.Error(s)
	}
	p.run(compacts, seals, appends("x"), compacts)
	p.wantsErr(seals, api.ErrLimit)
}

// P22.2: no number is above MaxIndex.
func TestLimitOfNumbers(t *testing.T) {
	const last = api.MaxIndex
	p := pairOf(t, at(200, last-2, 1))
	p.wantsErr(appends("a", "b", "c", "d"), api.ErrLimit)
	p.wantsErr(appends("a", "b", "c", long(257)), api.ErrLong)
	p.run(appends("a 1"), appends("b 2", "c 3"), appends())
	p.wantsErr(appends("d"), api.ErrLimit)
	p.run(syncs, appends())
	if p.s.End() != last+1 {
		t.Error(p.s.End())
	}
	p.reopen()
	p.wantsErr(appends("d"), api.ErrLimit)
	if line, e := p.s.Line(last); e != api.OK || line != "c 3" {
		t.Error(e, line)
	}
	p.run(seals, drops(last))
	p.wantsErr(appends("d"), api.ErrLimit)
	p.reopen()
	p = pairOf(t, at(200, last, 1))
	p.run(appends("only"), syncs, seals)
	p.reopen()
	p.run(drops(last), appends(), compacts, seals)
	if n, e := p.s.Append(); n != last+1 || e != api.OK {
		t.Error(n, e)
	}
	// A Span that begins at MaxIndex may end behind it: no line comes behind that, but none may be appended.
	m := at(200, last, 5)
	m = m.lay("a").lay("b").lay("c")
	m.spans, m.kept, m.synced = []api.Span{{ID: 1, First: last, Count: 3}}, m.tree.Encode(), last+3
	p = pairOf(t, m)
	p.wantsErr(appends("d"), api.ErrLimit)
	p.run(appends(), syncs, seals)
}

// P22.4: where a Commit has no room, nothing has changed, and the store goes on.
func TestNoRoom(t *testing.T) {
	random := func(n int) string {
		s := ""
		for len(s) < 200 {
			n = n*1103515245 + 12345
			s += fmt.Sprint(n&0xffff, " ")
		}
		return s[:200]
	}
	p := made(t, slots+12, appends(random(1)), syncs, appends(random(2)))
	p.wantsErr(seals, api.ErrFull)
	if p.s.Dead() {
		t.Fatal("dead")
	}
	p.wantsErr(seals, api.ErrFull)
	p.run(appends("a"), syncs, appends(random(3)))
	p.wantsErr(syncs, api.ErrFull)
	p.wantsErr(seals, api.ErrFull)
	p.run(compacts, drops(9), appends("b"))
	p.wantsErr(syncs, api.ErrFull)
	p.reopen()
	if p.s.End() != 3 {
		t.Error(p.s.End())
	}
	p = made(t, slots+26, appends(random(1), random(2)), seals, appends(random(3), random(4)), seals)
	free := p.s.Free()
	p.wantsErr(compacts, api.ErrFull)
	if p.s.Free() != free || p.s.Dead() || len(p.s.Spans()) != 2 {
		t.Error(p.s.Free(), p.s.Dead(), p.s.Spans())
	}
	p.wantsErr(compacts, api.ErrFull)
	p.run(drops(2), appends("c"), syncs, seals)
	p.reopen()
	p = made(t, slots+2, drops(3), seals, compacts, appends("a"), syncs)
	p.wantsErr(seals, api.ErrFull)
	p.run(appends("b"))
	p.wantsErr(syncs, api.ErrFull)
}

// P22.4: a Drop that has no room for the new manifest.
func TestNoRoomForDrop(t *testing.T) {
	for size := slots + 3; size < slots+40; size++ {
		p := fresh(t, size)
		for n := range 20 {
			if _, e := p.do(appends(fmt.Sprint("line ", n*n*n))); e != api.OK {
				t.Fatal(e)
			}
			p.do(syncs)
			p.do(seals)
		}
		if _, e := p.do(drops(1)); e != api.OK && e != api.ErrFull {
			t.Error(e)
		}
		p.do(compacts)
		p.do(drops(15))
		p.reopen()
	}
}

// P22.4: blobs that would be longer than MaxBlob: ErrLong, and nothing has changed.
func TestTooLong(t *testing.T) {
	letters := func(n, size int) string {
		b := make([]byte, size)
		for i := range b {
			n = (n*1103515245 + 12345) & 0x7fffffff
			b[i] = byte('a' + n>>16%26)
		}
		return string(b)
	}
	// Lines of one token of 256 bytes each, of which no two are alike: a segment of two of these memories has more than 2^15 bytes.
	p := fresh(t, 2000)
	n := 0
	for range 3 {
		var l []string
		for range 64 {
			l = append(l, "\""+letters(n, 254)+"\"")
			n++
		}
		p.run(appends(l...), syncs, seals)
	}
	if n, e := p.s.Compact(); n || e != api.ErrLong {
		t.Fatal(n, e)
	}
	p.wantsErr(compacts, api.ErrLong)
	p.run(appends("a"), syncs, seals, drops(64), compacts, appends("b"))
	p.reopen()
}

// P22.1 to P22.5: each number at its edges, where there are sealed lines, synced ones, and others.
func TestEdges(t *testing.T) {
	p := made(t, 300, append(counted(5, 3), drops(5), appends("in the memory"), syncs, appends("y 7"))...)
	for _, i := range []int{math.MinInt, -1, 0, 4, 10, 11, 1 << 35, math.MaxInt} {
		if a, e := p.s.Assigned(i); e != api.ErrNone || a.ID != 0 || len(a.Vars) > 0 {
			t.Errorf("Assigned(%d): error %d, %v", i, e, a)
		}
		if line, e := p.s.Line(i); e != api.ErrNone || line != "" {
			t.Errorf("Line(%d): error %d, %q", i, e, line)
		}
	}
	for i, want := range map[int]string{5: "up 5", 6: "down now 6", 7: "a b c 7", 8: "in the memory", 9: "y 7"} {
		if line, e := p.s.Line(i); e != api.OK || line != want {
			t.Errorf("Line(%d): error %d, %q", i, e, line)
		}
		a, e := p.s.Assigned(i)
		if e != api.OK || len(a.Vars) != wild(t, p.m.tree, a.ID) {
			t.Errorf("Assigned(%d): error %d, %v", i, e, a)
		}
	}
	for _, id := range []int{math.MinInt, -1, p.s.Templates(), p.s.Templates() + 1, 64, math.MaxInt} {
		if template, ok := p.s.Template(id); ok || len(template) > 0 {
			t.Errorf("Template(%d): %v, %v", id, template, ok)
		}
	}
	for id := range p.s.Templates() {
		if template, ok := p.s.Template(id); !ok || len(template) == 0 {
			t.Errorf("Template(%d): %v, %v", id, template, ok)
		}
	}
	if template, ok := p.s.Template(0); !ok || !part.Same(template, api.Template{{Any: true}}) {
		t.Errorf("%v, %v", template, ok)
	}
}

// P22.5: no Sync, Seal, Compact or Open changes a line's template or its variables, nor any template.
func TestNothingChangesLines(t *testing.T) {
	p := fresh(t, 1500)
	var given []api.Assigned
	n := 0
	for round := range 12 {
		for range 1 + round%4 {
			l := []string{fmt.Sprint("up ", n), fmt.Sprint("user u", n%3, " did ", n), "a b " + string(rune('a'+n%26)) + " d", long(n % 200)}
			p.run(appends(l...))
			for range l {
				a, _ := p.s.Assigned(len(given))
				given = append(given, a)
				n++
			}
		}
		switch round % 4 {
		case 0:
			p.run(syncs)
			p.reopen()
		case 1:
			p.run(seals)
		case 2:
			p.run(compacts, syncs)
			p.reopen()
		case 3:
			p.run(seals, compacts, compacts)
			p.reopen()
		}
		for i, want := range given {
			if a, e := p.s.Assigned(i); e != api.OK || tellLine(a) != tellLine(want) {
				t.Fatalf("round %d: line %d is %v, want %v", round, i, a, want)
			}
		}
	}
}

// W8, P22.5: a nil Store.
func TestNil(t *testing.T) {
	var s *store.Store
	for _, c := range []step{appends(), appends("a"), appends(long(257)), syncs, seals, compacts, drops(0), drops(9)} {
		if n, e := call(s, c); n != 0 || e != api.ErrArg {
			t.Errorf("%v: %d, error %d", c, n, e)
		}
	}
	for _, i := range []int{-1, 0, 1} {
		if a, e := s.Assigned(i); e != api.ErrArg || a.ID != 0 || len(a.Vars) > 0 {
			t.Error(e, a)
		}
		if line, e := s.Line(i); e != api.ErrArg || line != "" {
			t.Error(e, line)
		}
		if template, ok := s.Template(i); ok || len(template) > 0 {
			t.Error(template)
		}
	}
	if s.First() != 0 || s.End() != 0 || s.Synced() != 0 || s.Templates() != 0 || len(s.Spans()) > 0 || s.Free() != 0 || !s.Dead() {
		t.Error(s.First(), s.End(), s.Synced(), s.Templates(), s.Spans(), s.Free(), s.Dead())
	}
}

// W1: a Store that neither Format nor Open made does not panic.
func TestNoDisk(t *testing.T) {
	var s store.Store
	for _, c := range []step{appends(), appends("a"), syncs, seals, compacts, drops(9)} {
		call(&s, c)
	}
	tellStore(&s)
}
