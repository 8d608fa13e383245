// Package whole_test holds the promises that go through all layers, P0.1 to P0.6, against a plain row of lines.
package whole_test

import (
	"maps"
	"slices"
	"sync"

	"winnower/api"
	"winnower/lexer"
	"winnower/manifest"
	"winnower/octet"
	"winnower/segment"
	"winnower/vault"
	"winnower/wal"
	"winnower/world"
)

// slots is how many sectors the slots have; no blob lies there.
const slots = 2 * api.SlotSize

var theLexer = sync.OnceValue(lexer.New)

// must is what a call answers that may not err.
func must[T any](v T, e api.Errno) T {
	if e != api.OK {
		panic(e)
	}
	return v
}

// blob is a blob's data, and the sectors that it lies in.
type blob struct {
	data []byte
	at   []int
}

// room is what lies on a disk of some sectors, in plain words.
type room struct {
	size  int
	blobs map[string]blob
}

// owner is of each sector whose it is, as chapter 4 tells it.
func (r room) owner() []string {
	l := make([]string, r.size)
	for i := range slots {
		l[i] = "!"
	}
	for name, b := range r.blobs {
		for _, i := range b.at {
			l[i] += name
		}
	}
	return l
}

// free is as many sectors as there are, less the slots', less what the live blobs need.
func (r room) free() int {
	n := r.size - slots
	for _, b := range r.blobs {
		n -= (len(b.data) + api.Sector - 1) / api.Sector
	}
	return n
}

// directory is how many bytes the image has that tells of all blobs.
func (r room) directory() int {
	var w octet.Writer
	w.Nums(len(r.blobs))
	for _, name := range slices.Sorted(maps.Keys(r.blobs)) {
		b := r.blobs[name]
		var extents []int
		for k, i := range b.at {
			if k > 0 && i == b.at[k-1]+1 {
				extents[len(extents)-1]++
			} else {
				extents = append(extents, i, 1)
			}
		}
		w.Bytes([]byte(name))
		w.Nums(len(b.data), int(octet.Sum(b.data)), len(extents)/2)
		w.Nums(extents...)
	}
	return len(w.Out())
}

// commit is the room behind a Commit, and how many writes and flushes that takes.
func (r room) commit(gone []string, put ...vault.Blob) (room, int, api.Errno) {
	for _, p := range put {
		if len(p.Data) > api.MaxBlob {
			return r, 0, api.ErrLong
		}
	}
	owner := r.owner()
	after := room{r.size, maps.Clone(r.blobs)}
	for _, name := range gone {
		delete(after.blobs, name)
	}
	writes := 0
	for _, p := range put {
		b := blob{data: p.Data}
		for i := slots; i < r.size && len(b.at)*api.Sector < len(p.Data); i++ {
			if owner[i] == "" {
				b.at = append(b.at, i)
				owner[i] = p.Name
			}
		}
		if len(b.at)*api.Sector < len(p.Data) {
			return r, 0, api.ErrFull
		}
		after.blobs[p.Name] = b
		writes += len(b.at)
	}
	if after.directory() > api.MaxImage {
		return r, 0, api.ErrFull
	}
	if writes > 0 {
		writes++
	}
	return after, writes + api.SlotSize + 1, api.OK
}

// model is a world in plain words: a row of lines, and what is told of them.
type model struct {
	room
	up, dead bool
	fuse     int // how many writes and flushes are done yet; -1: all
	first    int
	next     int
	synced   int
	lines    []string       // all, from first on
	given    []api.Assigned // what each was Assigned as, when it came
	spans    []api.Span
	begins   []int     // of the batches
	kept     plainTree // the manifest's
	tree     plainTree
}

// begin is a world of so many sectors that has just begun.
func begin(sectors int) model {
	m := model{room: room{size: sectors, blobs: map[string]blob{}}, up: true, fuse: -1, next: 1, kept: newTree(), tree: newTree()}
	m.room = must2(m.room.commit(nil, m.root()))
	return m
}

// must2 is what a Commit makes that may not err.
func must2(r room, _ int, e api.Errno) room { return must(r, e) }

func (m model) end() int { return m.first + len(m.lines) }

// sealed is up to where lines are in segments.
func (m model) sealed() int {
	n := m.first
	for _, s := range m.spans {
		n += s.Count
	}
	return n
}

func (m model) root() vault.Blob {
	return vault.Blob{Name: "m", Data: must(manifest.Encode(manifest.Manifest{Next: m.next, First: m.first, Spans: m.spans, Tree: m.kept.encode()}))}
}

func (m model) segment(s api.Span) vault.Blob {
	lines := m.given[s.First-m.first : s.First-m.first+s.Count]
	return vault.Blob{Name: wal.Name('s', s.ID), Data: must(segment.Encode(segment.Segment{First: s.First, Lines: lines}))}
}

func (m model) batch() vault.Blob {
	return vault.Blob{Name: wal.Name('w', m.synced), Data: must(wal.Encode(wal.Batch{First: m.synced, Lines: m.lines[m.synced-m.first:]}))}
}

// lay is the model with more lines.
func (m model) lay(lines ...string) model {
	m.tree = m.tree.copied()
	m.given = slices.Clone(m.given)
	for _, line := range lines {
		m.given = append(m.given, m.tree.assign(line))
	}
	m.lines = slices.Concat(m.lines, lines)
	return m
}

// opened is what is up behind a crash and an opening.
func (m model) opened() model {
	lines := m.lines[m.sealed()-m.first : m.synced-m.first]
	m.up, m.dead = true, false
	m.lines, m.given = m.lines[:m.sealed()-m.first], m.given[:m.sealed()-m.first]
	m.tree = m.kept
	return m.lay(lines...)
}

// answer is what a step tells, and what is there behind it.
type answer struct {
	n     int
	e     api.Errno
	after model
	whole model // what would be there, had no fuse cut the step
}

func (m model) errs(e api.Errno) answer { return answer{0, e, m, m} }

func (m model) is(n int, after model) answer { return answer{n, api.OK, after, after} }

// commits is the answer n behind one Commit, if it has room, and no fuse cuts it.
func (m model) commits(n int, after model, gone []string, put ...vault.Blob) answer {
	r, cost, e := m.room.commit(gone, put...)
	if e != api.OK {
		return m.errs(e)
	}
	after.room = r
	if m.fuse >= 0 && m.fuse < cost {
		cut := m
		cut.fuse, cut.dead = 0, true
		return answer{0, api.ErrDead, cut, after}
	}
	if m.fuse >= 0 {
		after.fuse = m.fuse - cost
	}
	return m.is(n, after)
}

// step is what a world answers, if a Crash picks nothing of what waits.
func (m model) step(s world.Step) answer {
	after := m
	switch s.Kind {
	case world.StepFuse:
		after.fuse = max(s.N, -1)
		return m.is(0, after)
	case world.StepCrash:
		after.up, after.fuse = false, -1
		return m.is(0, after)
	case world.StepOpen:
		if m.up {
			return m.errs(api.ErrArg)
		}
		return m.is(0, m.opened())
	}
	if !m.up || s.Kind < world.StepAppend || s.Kind > world.StepOpen {
		return m.errs(api.ErrArg)
	}
	if m.dead {
		return m.errs(api.ErrDead)
	}
	switch s.Kind {
	case world.StepAppend:
		return m.appends(s.Lines)
	case world.StepSync:
		return m.syncs()
	case world.StepSeal:
		return m.seals()
	case world.StepCompact:
		return m.compacts()
	}
	return m.drops(s.N)
}

func (m model) appends(lines []string) answer {
	if slices.ContainsFunc(lines, func(line string) bool { return len(line) > 256 }) {
		return m.errs(api.ErrLong)
	}
	if m.end()-m.sealed()+len(lines) > 64 {
		return m.errs(api.ErrLimit)
	}
	return m.is(m.end(), m.lay(lines...))
}

func (m model) syncs() answer {
	after := m
	if m.synced == m.end() {
		return m.is(0, after)
	}
	after.begins = append(slices.Clip(m.begins), m.synced)
	after.synced = m.end()
	return m.commits(0, after, nil, m.batch())
}

func (m model) seals() answer {
	after := m
	s := api.Span{ID: m.next, First: m.sealed(), Count: m.end() - m.sealed()}
	if s.Count == 0 {
		return m.is(0, after)
	}
	var gone []string
	for _, n := range m.begins {
		gone = append(gone, wal.Name('w', n))
	}
	after.spans = append(slices.Clip(m.spans), s)
	after.next++
	after.kept = m.tree
	after.begins = nil
	after.synced = m.end()
	return m.commits(0, after, gone, m.segment(s), after.root())
}

// pick is the place of the first one of two neighbours that have the fewest lines together; -1, if none may be one.
func (m model) pick() int {
	at, fewest := -1, api.MaxSeg+1
	for k := 1; k < len(m.spans); k++ {
		if n := m.spans[k-1].Count + m.spans[k].Count; n < fewest {
			at, fewest = k-1, n
		}
	}
	return at
}

func (m model) compacts() answer {
	after := m
	at := m.pick()
	if at < 0 {
		return m.is(0, after)
	}
	a, b := m.spans[at], m.spans[at+1]
	s := api.Span{ID: m.next, First: a.First, Count: a.Count + b.Count}
	after.spans = slices.Concat(m.spans[:at], []api.Span{s}, m.spans[at+2:])
	after.next++
	return m.commits(1, after, []string{wal.Name('s', a.ID), wal.Name('s', b.ID)}, m.segment(s), after.root())
}

func (m model) drops(n int) answer {
	after := m
	var gone []string
	for _, s := range m.spans {
		if s.First+s.Count <= n {
			gone = append(gone, wal.Name('s', s.ID))
			after.first += s.Count
		}
	}
	count := after.first - m.first
	if count == 0 {
		return m.is(0, after)
	}
	after.spans = m.spans[len(gone):]
	after.lines, after.given = m.lines[count:], m.given[count:]
	return m.commits(count, after, gone, after.root())
}

// where is the numbers of the lines that are there for which something holds.
func (m model) where(holds func(k int) bool) []int {
	var l []int
	for k := range m.lines {
		if m.up && holds(k) {
			l = append(l, m.first+k)
		}
	}
	return l
}

func (m model) byField(kind int, text string) []int {
	return m.where(func(k int) bool {
		return slices.Contains(tokensOf(m.lines[k]), api.Token{Kind: kind, Text: text})
	})
}

func (m model) byTemplate(id int) []int {
	return m.where(func(k int) bool { return m.given[k].ID == id })
}
