package store_test

import (
	"cmp"
	"fmt"
	"maps"
	"slices"
	"strings"
	"sync"
	"testing"

	"winnower/api"
	"winnower/lexer"
	"winnower/manifest"
	"winnower/part"
	"winnower/plan"
	"winnower/sector"
	"winnower/segment"
	"winnower/store"
	"winnower/tree"
	"winnower/vault"
	"winnower/wal"
)

// slots is how many sectors the slots have; no blob lies there.
const slots = 2 * api.SlotSize

var theLexer = sync.OnceValue(lexer.New)

func tokensOf(line string) []api.Token {
	l, _ := theLexer().Lex(line)
	return l
}

// model is a store in plain words: a row of lines, and what is told of them.
type model struct {
	size   int
	first  int
	next   int
	synced int
	dead   bool
	lines  []string       // all, from first on
	given  []api.Assigned // what each was told as, when it came
	spans  []api.Span
	kept   []byte // the manifest's tree
	tree   *tree.Tree
	begins []int // of the batches, in the order in which they came
}

func newModel(size int) model {
	return model{size: size, next: 1, kept: tree.New().Encode(), tree: tree.New()}
}

func (m model) end() int { return m.first + len(m.lines) }

// sealed is up to where lines are in segments.
func (m model) sealed() int {
	n := m.first
	for _, s := range m.spans {
		n += s.Count
	}
	return n
}

// assigned is the lines from one number on, below another.
func (m model) assigned(from, to int) []api.Assigned { return m.given[from-m.first : to-m.first] }

func (m model) manifest() manifest.Manifest {
	return manifest.Manifest{Next: m.next, First: m.first, Spans: m.spans, Tree: m.kept}
}

func (m model) segment(s api.Span) vault.Blob {
	data, e := segment.Encode(segment.Segment{First: s.First, Lines: m.assigned(s.First, s.First+s.Count)})
	if e != api.OK {
		panic(e)
	}
	return vault.Blob{Name: wal.Name('s', s.ID), Data: data}
}

func (m model) batch(from, to int) vault.Blob {
	data, e := wal.Encode(wal.Batch{First: from, Lines: m.lines[from-m.first : to-m.first]})
	if e != api.OK {
		panic(e)
	}
	return vault.Blob{Name: wal.Name('w', from), Data: data}
}

func (m model) root() vault.Blob {
	data, e := manifest.Encode(m.manifest())
	if e != api.OK {
		panic(e)
	}
	return vault.Blob{Name: "m", Data: data}
}

// blobs is all that lies on the disk.
func (m model) blobs() []vault.Blob {
	l := []vault.Blob{m.root()}
	for _, s := range m.spans {
		l = append(l, m.segment(s))
	}
	for k, from := range m.begins {
		to := m.synced
		if k+1 < len(m.begins) {
			to = m.begins[k+1]
		}
		l = append(l, m.batch(from, to))
	}
	slices.SortFunc(l, func(a, b vault.Blob) int { return cmp.Compare(a.Name, b.Name) })
	return l
}

func (m model) free() int {
	n := m.size - slots
	for _, b := range m.blobs() {
		n -= vault.Need(len(b.Data))
	}
	return n
}

// lay is the model with one line more.
func (m model) lay(line string) model {
	m.tree = m.tree.Copy()
	m.given = append(slices.Clip(m.given), m.tree.Assign(tokensOf(line)...))
	m.lines = append(slices.Clip(m.lines), line)
	return m
}

// opened is what is there behind a crash and Open: what was synced.
func (m model) opened(t *testing.T) model {
	t.Helper()
	lines, given := m.lines[m.sealed()-m.first:m.synced-m.first], m.given
	m.dead = false
	m.lines, m.given = m.lines[:m.sealed()-m.first], m.given[:m.sealed()-m.first]
	var e api.Errno
	if m.tree, e = tree.Decode(m.kept); e != api.OK {
		t.Fatal(e)
	}
	for _, line := range lines {
		m = m.lay(line)
	}
	for k, a := range m.given {
		if tellLine(a) != tellLine(given[k]) {
			t.Errorf("line %d was %v, and is %v", m.first+k, given[k], a)
		}
	}
	return m
}

// step is a call.
type step struct {
	kind  string
	n     int
	lines []string
}

func appends(lines ...string) step { return step{kind: "Append", lines: lines} }

func drops(n int) step { return step{kind: "Drop", n: n} }

var (
	syncs    = step{kind: "Sync"}
	seals    = step{kind: "Seal"}
	compacts = step{kind: "Compact"}
)

func (c step) String() string {
	s := fmt.Sprint(c.kind, " ", c.n, " ", c.lines)
	return fmt.Sprintf("%.60s", s)
}

// commit is what a call lays on the disk.
type commit struct {
	gone []string
	put  []vault.Blob
}

// answer is what a call tells, if what it commits is committed; and the model behind it.
type answer struct {
	n      int
	e      api.Errno
	commit *commit
	after  model
}

func (m model) errs(e api.Errno) answer { return answer{e: e, after: m} }

// call is what chapter 22 says of a call.
func (m model) call(c step) answer {
	if m.dead {
		return m.errs(api.ErrDead)
	}
	switch c.kind {
	case "Append":
		return m.callAppend(c.lines)
	case "Sync":
		return m.callSync()
	case "Seal":
		return m.callSeal()
	case "Compact":
		return m.callCompact()
	}
	return m.callDrop(c.n)
}

func (m model) callAppend(lines []string) answer {
	for _, line := range lines {
		if len(line) > 256 {
			return m.errs(api.ErrLong)
		}
	}
	if m.end()-m.sealed()+len(lines) > 64 {
		return m.errs(api.ErrLimit)
	}
	for k := range lines {
		if m.end()+k > 1<<35 {
			return m.errs(api.ErrLimit)
		}
	}
	after := m
	for _, line := range lines {
		after = after.lay(line)
	}
	return answer{n: m.end(), after: after}
}

func (m model) callSync() answer {
	after := m
	if m.synced == m.end() {
		return answer{after: after}
	}
	after.begins = append(slices.Clip(m.begins), m.synced)
	after.synced = m.end()
	return answer{commit: &commit{put: []vault.Blob{m.batch(m.synced, m.end())}}, after: after}
}

func (m model) callSeal() answer {
	after := m
	if m.sealed() == m.end() {
		return answer{after: after}
	}
	if m.next == 1<<30 {
		return m.errs(api.ErrLimit)
	}
	c := &commit{}
	for _, n := range m.begins {
		c.gone = append(c.gone, wal.Name('w', n))
	}
	s := api.Span{ID: m.next, First: m.sealed(), Count: m.end() - m.sealed()}
	after.spans = append(slices.Clip(m.spans), s)
	after.next++
	after.kept = m.tree.Encode()
	after.begins = nil
	after.synced = m.end()
	c.put = []vault.Blob{m.segment(s), after.root()}
	return answer{commit: c, after: after}
}

func (m model) callCompact() answer {
	after := m
	at, ok := plan.Pick(m.spans...)
	if !ok {
		return answer{after: after}
	}
	if m.next == 1<<30 {
		return m.errs(api.ErrLimit)
	}
	a, b := m.spans[at], m.spans[at+1]
	s := api.Span{ID: m.next, First: a.First, Count: a.Count + b.Count}
	after.spans = slices.Concat(m.spans[:at], []api.Span{s}, m.spans[at+2:])
	after.next++
	c := &commit{[]string{wal.Name('s', a.ID), wal.Name('s', b.ID)}, []vault.Blob{m.segment(s), after.root()}}
	return answer{n: 1, commit: c, after: after}
}

func (m model) callDrop(n int) answer {
	after := m
	c := &commit{}
	for _, s := range m.spans {
		if s.First+s.Count <= n {
			c.gone = append(c.gone, wal.Name('s', s.ID))
			after.first += s.Count
		}
	}
	count := after.first - m.first
	if count == 0 {
		return answer{after: after}
	}
	after.spans = m.spans[len(c.gone):]
	after.lines, after.given = m.lines[count:], m.given[count:]
	if after.first > 1<<35 {
		return m.errs(api.ErrArg)
	}
	c.put = []vault.Blob{after.root()}
	return answer{n: count, commit: c, after: after}
}

func tellLine(a api.Assigned) string {
	return fmt.Sprintf("%d%q", a.ID, append([]string{}, a.Vars...))
}

// told is all that a store tells, a line each.
type told []string

func (l *told) add(what ...any) { *l = append(*l, fmt.Sprint(what...)) }

// tell is all that the model tells.
func (m model) tell() told {
	var l told
	l.add("First ", m.first, " End ", m.end(), " Synced ", m.synced, " Free ", m.free(), " Dead ", m.dead)
	l.add("Spans ", append([]api.Span{}, m.spans...))
	for id := -1; id <= m.tree.Len(); id++ {
		t, ok := m.tree.Template(id)
		l.add("Template ", id, append(api.Template{}, t...), ok)
	}
	l.add("Templates ", m.tree.Len())
	for i := m.first - 2; i < m.end()+2; i++ {
		if i < m.first || i >= m.end() {
			l.add(i, " ", tellLine(api.Assigned{}), api.ErrNone, "", api.ErrNone)
		} else {
			l.add(i, " ", tellLine(m.given[i-m.first]), api.OK, m.lines[i-m.first], api.OK)
		}
	}
	return l
}

// tellStore is all that a store tells.
func tellStore(s *store.Store) told {
	var l told
	l.add("First ", s.First(), " End ", s.End(), " Synced ", s.Synced(), " Free ", s.Free(), " Dead ", s.Dead())
	l.add("Spans ", append([]api.Span{}, s.Spans()...))
	for id := -1; id <= s.Templates(); id++ {
		t, ok := s.Template(id)
		l.add("Template ", id, append(api.Template{}, t...), ok)
	}
	l.add("Templates ", s.Templates())
	for i := s.First() - 2; i < s.End()+2; i++ {
		a, e := s.Assigned(i)
		line, e2 := s.Line(i)
		l.add(i, " ", tellLine(a), e, line, e2)
	}
	return l
}

// wantsTold holds what a store tells against the model.
func (m model) wantsTold(t *testing.T, what any, s *store.Store) {
	t.Helper()
	if s == nil {
		t.Fatalf("%v: no store", what)
	}
	got, want := tellStore(s), m.tell()
	for k := range max(len(got), len(want)) {
		if k >= len(got) || k >= len(want) || got[k] != want[k] {
			t.Errorf("%v: told is %.300q, want %.300q", what, got[min(k, len(got)):min(k+2, len(got))], want[min(k, len(want)):min(k+2, len(want))])
			return
		}
	}
}

// wantsBlobs holds what lies on a disk against the model.
func (m model) wantsBlobs(t *testing.T, what any, d *sector.Disk) {
	t.Helper()
	v, e := vault.Open(d)
	if e != api.OK {
		t.Fatalf("%v: error %d of the vault", what, e)
	}
	var names []string
	for _, b := range m.blobs() {
		names = append(names, b.Name)
		if data, e := v.Get(b.Name); e != api.OK || !slices.Equal(data, b.Data) {
			t.Errorf("%v: blob %s: error %d, %.200x, want %.200x", what, b.Name, e, data, b.Data)
		}
	}
	if got := v.Names(); !slices.Equal(got, names) {
		t.Errorf("%v: blobs %v, want %v", what, got, names)
	}
}

// pair is a store, and the model that it is held against, with a vault of its own on another disk that takes the same commits.
type pair struct {
	t    *testing.T
	d    *sector.Disk
	s    *store.Store
	m    model
	twin *sector.Disk
	v    *vault.Vault
}

func newDisk(t *testing.T, sectors int) *sector.Disk {
	t.Helper()
	d, e := sector.New(sectors)
	if e != api.OK {
		t.Fatalf("a disk of %d sectors: error %d", sectors, e)
	}
	return d
}

// fresh is a pair that has just been formatted.
func fresh(t *testing.T, sectors int) *pair {
	t.Helper()
	p := &pair{t: t, d: newDisk(t, sectors), twin: newDisk(t, sectors), m: newModel(sectors)}
	var e api.Errno
	if p.s, e = store.Format(p.d); e != api.OK {
		t.Fatalf("Format of %d sectors: error %d", sectors, e)
	}
	p.v, _ = vault.Format(p.twin)
	if e := p.v.Commit(nil, p.m.root()); e != api.OK {
		t.Fatal(e)
	}
	p.wants("Format")
	return p
}

// made is a pair on which some calls were made.
func made(t *testing.T, sectors int, steps ...step) *pair {
	t.Helper()
	p := fresh(t, sectors)
	p.run(steps...)
	return p
}

// wants holds all that is told, and each sector, against the model and its twin.
func (p *pair) wants(what any) {
	p.t.Helper()
	p.m.wantsTold(p.t, what, p.s)
	wantsDisk(p.t, what, p.d, p.twin)
}

func wantsDisk(t *testing.T, what any, d, want *sector.Disk) {
	t.Helper()
	for i := range want.Len() {
		a, _ := d.Read(i)
		b, _ := want.Read(i)
		if !slices.Equal(a, b) {
			t.Errorf("%v: sector %d is % x, want % x", what, i, a, b)
			return
		}
	}
	if a, b := d.Waiting(), want.Waiting(); !slices.Equal(a, b) {
		t.Errorf("%v: sectors %v wait, want %v", what, a, b)
	}
}

// call makes a call on a store.
func call(s *store.Store, c step) (int, api.Errno) {
	switch c.kind {
	case "Append":
		return s.Append(c.lines...)
	case "Sync":
		return 0, s.Sync()
	case "Seal":
		return 0, s.Seal()
	case "Compact":
		did, e := s.Compact()
		if did {
			return 1, e
		}
		return 0, e
	}
	return s.Drop(c.n)
}

// do makes a call on both, and holds them against each other; the error is that of both.
func (p *pair) do(c step) (int, api.Errno) {
	p.t.Helper()
	want := p.m.call(c)
	if want.commit != nil {
		if e := p.v.Commit(want.commit.gone, want.commit.put...); e != api.OK {
			want = answer{e: e, after: p.m}
			want.after.dead = p.v.Dead()
		}
	}
	n, e := call(p.s, c)
	if n != want.n || e != want.e {
		p.t.Errorf("%v: %d, error %d, want %d, error %d", c, n, e, want.n, want.e)
	}
	p.m = want.after
	p.wants(c)
	return want.n, want.e
}

// run makes calls that do not err.
func (p *pair) run(steps ...step) {
	p.t.Helper()
	for _, c := range steps {
		if _, e := p.do(c); e != api.OK {
			p.t.Fatalf("%v: error %d", c, e)
		}
	}
}

// wantsErr makes a call that errs, and changes nothing.
func (p *pair) wantsErr(c step, e api.Errno) {
	p.t.Helper()
	before := p.m.tell()
	if n, got := p.do(c); got != e || n != 0 {
		p.t.Errorf("%v: %d, error %d, want error %d", c, n, got, e)
	}
	if !p.m.dead && !slices.Equal(p.m.tell(), before) {
		p.t.Errorf("%v: it changed what is told", c)
	}
}

// reopen opens both disks anew behind a crash that forgets all that waits.
func (p *pair) reopen() {
	p.t.Helper()
	p.d.Crash()
	p.twin.Crash()
	p.open()
}

// open opens both disks as they are.
func (p *pair) open() {
	p.t.Helper()
	var e api.Errno
	if p.s, e = store.Open(p.d); e != api.OK {
		p.t.Fatalf("Open: error %d", e)
	}
	p.v, _ = vault.Open(p.twin)
	p.m = p.m.opened(p.t)
	p.wants("Open")
}

// numbered is n lines of which some are alike.
func numbered(n, from int) []string {
	var l []string
	for k := range n {
		i := from + k
		l = append(l, fmt.Sprint([]string{"up ", "down now ", "a b c ", "x-", "-> "}[i%5], i))
	}
	return l
}

// counted is calls that make segments of so many lines.
func counted(counts ...int) []step {
	var steps []step
	at := 0
	for _, n := range counts {
		for left := n; left > 0; left -= 64 {
			steps = append(steps, appends(numbered(min(left, 64), at)...), seals)
			at += min(left, 64)
		}
	}
	return steps
}

func long(n int) string { return strings.Repeat("x", n) }

// wantsOpen holds that a disk of some blobs is a store, and what it tells; opened twice, it is the same, and nothing is written.
func wantsOpen(t *testing.T, what any, m model, blobs ...vault.Blob) {
	t.Helper()
	d := laid(t, m.size, blobs...)
	before := d.Copy()
	for range 2 {
		s, e := store.Open(d)
		if e != api.OK {
			t.Errorf("%v: Open: error %d", what, e)
			return
		}
		m.wantsTold(t, what, s)
	}
	wantsDisk(t, what, d, before)
}

// wantsNoOpen holds that a disk of some blobs is none.
func wantsNoOpen(t *testing.T, what any, size int, blobs ...vault.Blob) {
	t.Helper()
	d := laid(t, size, blobs...)
	before := d.Copy()
	if s, e := store.Open(d); e != api.ErrForm || s != nil {
		t.Errorf("%v: Open: error %d, %v", what, e, s)
	}
	wantsDisk(t, what, d, before)
}

// laid is a disk with a vault of some blobs.
func laid(t *testing.T, size int, blobs ...vault.Blob) *sector.Disk {
	t.Helper()
	d := newDisk(t, size)
	v, e := vault.Format(d)
	if e != api.OK {
		t.Fatal(e)
	}
	if e := v.Commit(nil, blobs...); e != api.OK {
		t.Fatalf("the blobs of a vault: error %d", e)
	}
	return d
}

// with is blobs with others put for those of their names, or beside them.
func with(blobs []vault.Blob, others ...vault.Blob) []vault.Blob {
	by := map[string]vault.Blob{}
	for _, b := range slices.Concat(blobs, others) {
		by[b.Name] = b
	}
	var l []vault.Blob
	for _, name := range slices.Sorted(maps.Keys(by)) {
		l = append(l, by[name])
	}
	return l
}

// without is blobs but one.
func without(blobs []vault.Blob, name string) []vault.Blob {
	return slices.DeleteFunc(slices.Clone(blobs), func(b vault.Blob) bool { return b.Name == name })
}

// wild is how many variables a template has.
func wild(t *testing.T, k *tree.Tree, id int) int {
	t.Helper()
	p, ok := k.Template(id)
	if !ok {
		t.Fatalf("no template %d", id)
	}
	return part.Wild(p)
}
