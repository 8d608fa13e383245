package whole_test

import (
	"fmt"
	"math"
	"math/rand"
	"slices"
	"strings"
	"testing"

	"winnower/api"
	"winnower/manifest"
	"winnower/octet"
	"winnower/part"
	"winnower/sector"
	"winnower/super"
	"winnower/tree"
	"winnower/vault"
	"winnower/wal"
	"winnower/world"
)

// extents is of each sector of a disk how many blobs have it, as the image tells that lies there.
func extents(t *testing.T, d *sector.Disk) []int {
	t.Helper()
	s, e := super.Open(d)
	if e != api.OK {
		t.Fatal(e)
	}
	owners := make([]int, d.Len())
	r := octet.NewReader(s.Image())
	for range r.Num() {
		r.Bytes()
		var length, sum, many int
		r.Nums(&length, &sum, &many)
		for range many {
			var from, count int
			r.Nums(&from, &count)
			for i := range count {
				owners[from+i]++
			}
		}
	}
	if !r.Whole() {
		t.Fatal("the image is no directory")
	}
	return owners
}

// wantsFree holds that free are as many sectors as there are, less the slots', less what the live blobs need, and that no sector is two blobs'.
func wantsFree(t *testing.T, what any, w *world.World) {
	t.Helper()
	d := w.Disk()
	v, e := vault.Open(d)
	if e != api.OK {
		t.Fatalf("%.100v: error %d", what, e)
	}
	free := d.Len() - slots
	owner := v.Owner()
	for _, name := range v.Names() {
		data, e := v.Get(name)
		if e != api.OK {
			t.Fatalf("%.100v: blob %s: error %d", what, name, e)
		}
		need := (len(data) + 63) / 64
		free -= need
		has := 0
		for _, o := range owner {
			if o == name {
				has++
			}
		}
		if has != need {
			t.Fatalf("%.100v: blob %s has %d sectors, needs %d", what, name, has, need)
		}
	}
	told := v.Free()
	if w.Up() {
		told = w.Engine().Free()
	}
	if v.Free() != free || told != free {
		t.Fatalf("%.100v: free are %d, and %d, want %d", what, v.Free(), told, free)
	}
	for i, n := range extents(t, d) {
		if n > 1 || i < slots && n > 0 || (n > 0) != (owner[i] != "" && owner[i] != "!") {
			t.Fatalf("%.100v: sector %d is of %d blobs, owner %q", what, i, n, owner[i])
		}
	}
}

// live is the names of the blobs that are to be there: the manifest, the spans' segments, the batches that are told.
func live(w *world.World, begins []int) []string {
	l := []string{"m"}
	for _, s := range w.Engine().Spans() {
		l = append(l, wal.Name('s', s.ID))
	}
	for _, n := range begins {
		l = append(l, wal.Name('w', n))
	}
	slices.Sort(l)
	return l
}

// P0.5: behind each step, on small disks and on great ones, on which many have no room: free is what the live blobs do not need, no sector is two blobs', none but the live ones has any.
func TestRoom(t *testing.T) {
	for seed := range 20 {
		t.Run(fmt.Sprint(seed), func(t *testing.T) {
			t.Parallel()
			r := rand.New(rand.NewSource(int64(500 + seed)))
			p := fresh(t, slots+[]int{2, 12, 25, 60, 200}[seed%5])
			for range 60 {
				s := someStep(r, p.m)
				if s.Kind == world.StepFuse {
					continue
				}
				p.do(s)
				wantsFree(t, s, p.w)
				if !p.w.Up() {
					continue
				}
				v, _ := vault.Open(p.w.Disk())
				if names := live(p.w, p.m.begins); !slices.Equal(v.Names(), names) {
					t.Fatalf("%.100v: blobs %v, want %v", s, v.Names(), names)
				}
			}
		})
	}
}

// P0.5: whatever is dropped gives its room back, however often.
func TestRoomComesBack(t *testing.T) {
	p := fresh(t, slots+80)
	var free []int
	for round := range 60 {
		p.run(appends("up 3", fmt.Sprint("up ", round%10)), syncs, appends("up 4"), seals, appends("up 5"), syncs, seals, compacts, drops(math.MaxInt))
		free = append(free, p.w.Engine().Free())
		if round%5 == 0 {
			p.run(crashes(), opens)
		}
		wantsFree(t, round, p.w)
	}
	if slices.Max(free) != slices.Min(free) || free[0] < 75 {
		t.Error(free)
	}
}

// P0.5: where a disk is full, nothing is lost, and what goes makes room.
func TestFull(t *testing.T) {
	p := fresh(t, slots+40)
	line := func(n int) string { return fmt.Sprintf("%q", fmt.Sprint(n*n*7919, " ", n*n*n*104729, " ", n*131)) }
	full := 0
	for n := range 60 {
		p.run(appends(line(n)))
		if a := p.do([]world.Step{syncs, seals}[n%2]); a.e == api.ErrFull {
			full++
			before := p.w.Engine().Free()
			p.do(compacts)
			p.do(seals)
			if p.w.Engine().Free() < 0 || before > 40 {
				t.Error(before)
			}
			if s := p.w.Engine().Spans(); len(s) > 0 {
				p.do(drops(s[0].First + s[0].Count))
			}
			p.do(seals)
			p.run(crashes(), opens)
		}
		wantsFree(t, n, p.w)
	}
	if full == 0 {
		t.Error("it was never full")
	}
}

// P0.5: where the directory has no room for one blob more, nothing is lost, and what goes makes room.
func TestFullDirectory(t *testing.T) {
	for _, change := range []world.Step{syncs, seals} {
		p := fresh(t, 2000)
		full := 0
		for n := range 90 {
			p.run(appends(fmt.Sprint("up ", n)))
			s := seals
			if n >= 30 {
				s = change
			}
			if a := p.do(s); a.e == api.ErrFull {
				full++
				wantsFree(t, n, p.w)
			}
		}
		if full < 2 || p.w.Engine().Free() < 1000 || p.w.Engine().Dead() {
			t.Errorf("kind %d: full %d times, %d sectors are free", change.Kind, full, p.w.Engine().Free())
		}
		p.do(compacts)
		p.do(seals)
		p.do(drops(20))
		p.do(seals)
		p.run(crashes(), opens, appends("up 3"), syncs)
		if _, e := p.w.Engine().Line(p.w.Engine().End() - 1); e != api.OK || p.w.Engine().Count() < 20 {
			t.Error(e, p.w.Engine().Count())
		}
	}
}

// given is the number of the template that each of some lines gets; they are sealed, so that the memory holds them.
func (p *pair) given(lines ...string) []int {
	p.t.Helper()
	var ids []int
	for _, line := range lines {
		n, e := p.w.Do(appends(line))
		if e != api.OK {
			p.t.Fatal(e)
		}
		a, _ := p.w.Engine().Assigned(n)
		ids = append(ids, a.ID)
		if got, _ := p.w.Engine().Line(n); got != line {
			p.t.Errorf("line %d is %q, want %q", n, got, line)
		}
		if template, _ := p.w.Engine().Template(a.ID); a.ID == 0 && (!slices.Equal(a.Vars, []string{line}) || !part.Same(template, api.Template{{Any: true}})) {
			p.t.Errorf("line %q overflows to %v", line, a)
		}
		if n%10 == 9 {
			p.w.Run(seals, compacts)
		}
	}
	return ids
}

// wantsTree holds how many templates and leaves there are, in what tells and in what lies on the disk.
func (p *pair) wantsTree(templates, leaves int) {
	p.t.Helper()
	if e := p.w.Run(seals); e[0] != api.OK {
		p.t.Fatal(e)
	}
	v, _ := vault.Open(p.w.Disk())
	data, _ := v.Get("m")
	m, e := manifest.Decode(data)
	if e != api.OK {
		p.t.Fatal(e)
	}
	k, e := tree.Decode(m.Tree)
	if e != api.OK || k.Len() != templates || k.Leaves() != leaves {
		p.t.Errorf("error %d: %d templates, %d leaves, want %d, %d", e, k.Len(), k.Leaves(), templates, leaves)
	}
	if q := p.w.Engine(); q.Templates() != templates || len(q.List()) != templates {
		p.t.Errorf("%d templates, %d listed, want %d", q.Templates(), len(q.List()), templates)
	}
}

// from is numbers, one behind the other.
func from(n, many int) []int {
	var l []int
	for k := range many {
		l = append(l, n+k)
	}
	return l
}

// same is one number many times.
func same(n, many int) []int { return slices.Repeat([]int{n}, many) }

// P0.5: leaves up to as many as may be; a line of one more overflows, all others go on.
func TestMostLeaves(t *testing.T) {
	p := fresh(t, 1000)
	var rows []string
	for n := 1; n <= 40; n++ {
		rows = append(rows, strings.Repeat("=", n))
	}
	if got := p.given(rows...); !slices.Equal(got, append(from(1, 32), same(0, 8)...)) {
		t.Error(got)
	}
	p.wantsTree(33, 32)
	p.w.Run(crashes(), opens)
	if got := p.given("up 3", "====", strings.Repeat("=", 33), strings.Repeat("=", 32)); !slices.Equal(got, []int{0, 4, 0, 32}) {
		t.Error(got)
	}
	p.wantsTree(33, 32)
	// Leaves that there are still get groups, and wider templates.
	if got := p.given("==!!!!", "===!!!", "==!==="); !slices.Equal(got, []int{33, 34, 35}) {
		t.Error(got)
	}
	p.wantsTree(36, 32)
	// Half of the tokens alike is enough for a wider one, less is not.
	if got := p.given("==!!", "==??", "==!!!", "===!!", "==!!?"); !slices.Equal(got, []int{36, 36, 37, 38, 39}) {
		t.Error(got)
	}
	p.wantsTree(40, 32)
}

// P0.5: groups of a leaf up to as many as may be.
func TestMostGroups(t *testing.T) {
	p := fresh(t, 1000)
	var rows []string
	for _, c := range "abcdefghijkl" {
		rows = append(rows, "up"+strings.Repeat(" "+string(c), 5))
	}
	// Of eleven tokens six are alike: one template, and one that is wider.
	if got := p.given(rows[:4]...); !slices.Equal(got, []int{1, 2, 2, 2}) {
		t.Error(got)
	}
	rows = nil
	for _, c := range "!@$%^&+;,<" {
		rows = append(rows, "=="+strings.Repeat(string(c), 6))
	}
	if got := p.given(rows...); !slices.Equal(got, append(from(3, 8), 0, 0)) {
		t.Error(got)
	}
	p.wantsTree(11, 2)
	p.w.Run(crashes(), opens)
	if got := p.given(rows...); !slices.Equal(got, append(from(3, 8), 0, 0)) {
		t.Error(got)
	}
}

// P0.5: of two groups that are as alike the first one is widened.
func TestFirstGroup(t *testing.T) {
	p := fresh(t, 200)
	if got := p.given("==!!!!!!", "==@@@@@@", "==!!!@@@", "==!!!???", "==@@@@@@", "==???@@@"); !slices.Equal(got, []int{1, 2, 3, 3, 2, 4}) {
		t.Error(got)
	}
	p.wantsTree(5, 1)
}

// P0.5: templates up to as many as may be: behind that neither a leaf, nor a group, nor a wider template comes.
func TestMostTemplates(t *testing.T) {
	p := fresh(t, 1000)
	var rows []string
	for n := 1; n <= 20; n++ {
		rows = append(rows, strings.Repeat("=", n))
	}
	for n := 8; n <= 13; n++ {
		for _, c := range "!@$%^&+" {
			rows = append(rows, "=="+strings.Repeat(string(c), n-2))
		}
	}
	// Twenty leaves, then six times seven groups more: number 63 is the last one.
	if got := p.given(rows...); !slices.Equal(got, from(1, 62)) {
		t.Error(got)
	}
	p.wantsTree(63, 20)
	if got := p.given("===!"); !slices.Equal(got, []int{63}) {
		t.Error(got)
	}
	p.wantsTree(64, 20)
	for range 2 {
		if got := p.given("new", "up 3", "==;;;;;", "===!", "===;", "====", "=", "!", strings.Repeat("=", 20), "==x=="); !slices.Equal(got, []int{0, 0, 0, 63, 63, 63, 1, 0, 20, 0}) {
			t.Error(got)
		}
		p.wantsTree(64, 20)
		p.w.Run(crashes(), opens)
	}
}

// P0.5: parts of a template up to as many as may be.
func TestMostParts(t *testing.T) {
	p := fresh(t, 200)
	if got := p.given("", strings.Repeat("=", 64), strings.Repeat("=", 65), strings.Repeat("a ", 32), strings.Repeat("a ", 32)+"a", strings.Repeat("=", 256)); !slices.Equal(got, []int{0, 1, 0, 2, 0, 0}) {
		t.Error(got)
	}
	p.wantsTree(3, 2)
}

// P0.5: by chance there are never more templates and leaves than may be.
func TestLimitsByChance(t *testing.T) {
	p := fresh(t, 3000)
	r := rand.New(rand.NewSource(55))
	for range 600 {
		line := ""
		for range r.Intn(40) {
			line += string("=!@ab 3"[r.Intn(7)])
		}
		p.given(line)
	}
	q := p.w.Engine()
	if n := q.Templates(); n <= api.MaxLeaves || n > api.MaxIDs {
		t.Errorf("%d templates", n)
	}
	p.wantsTree(q.Templates(), 32)
	for id, n := range q.Used() {
		if id < 0 || id >= api.MaxIDs || n != len(q.ByTemplate(id)) {
			t.Error(id, n)
		}
	}
}
