package store

import (
	"cmp"
	"slices"

	"winnower/api"
	"winnower/lexer"
	"winnower/manifest"
	"winnower/part"
	"winnower/sector"
	"winnower/segment"
	"winnower/tree"
	"winnower/vault"
	"winnower/wal"
)

// The names of a store's blobs: that of its manifest, and by which letters those of segments and batches begin.
const (
	manifestName = "m"
	segmentKind  = 's'
	batchKind    = 'w'
)

func segmentName(span api.Span) string { return wal.Name(segmentKind, span.ID) }

func batchName(first int) string { return wal.Name(batchKind, first) }

// namesOf is the name of each.
func namesOf[T any](l []T, name func(T) string) []string {
	var names []string
	for _, one := range l {
		names = append(names, name(one))
	}
	return names
}

// Open reads what is there.
func Open(d *sector.Disk) (*Store, api.Errno) {
	v, e := vault.Open(d)
	if e != api.OK {
		return nil, e
	}
	s := &Store{vault: v, lexer: lexer.New()}
	if !s.takeManifest() || !s.takeSegments() || !s.takeBatches() {
		return nil, api.ErrForm
	}
	return s, api.OK
}

// blob is a blob's data; nothing, if it is not there, or spoilt: that is neither a manifest, nor a segment, nor a batch.
func (s *Store) blob(name string) []byte {
	data, _ := s.vault.Get(name)
	return data
}

// takeManifest takes the manifest and its tree; false, if it is none.
func (s *Store) takeManifest() bool {
	m, e := manifest.Decode(s.blob(manifestName))
	if e != api.OK {
		return false
	}
	s.Manifest = m
	s.tree, e = tree.Decode(m.Tree)
	return e == api.OK
}

// takeSegments takes the lines of all Spans; false, if one has not its segment.
func (s *Store) takeSegments() bool {
	for _, span := range s.Manifest.Spans {
		one, e := segment.Decode(s.blob(segmentName(span)))
		if e != api.OK || one.First != span.First || len(one.Lines) != span.Count || slices.ContainsFunc(one.Lines, s.wrong) {
			return false
		}
		s.lines = append(s.lines, one.Lines...)
	}
	return true
}

// wrong tells whether the tree has no template of a line, or one of more or fewer variables.
func (s *Store) wrong(a api.Assigned) bool {
	t, ok := s.tree.Template(a.ID)
	return !ok || part.Wild(t) != len(a.Vars)
}

// takeBatches takes all other blobs' lines into the memory; false, if one is no batch, or they are none behind the segments.
func (s *Store) takeBatches() bool {
	var found []wal.Batch
	for _, name := range s.otherNames() {
		b, e := wal.Decode(s.blob(name))
		if e != api.OK || batchName(b.First) != name {
			return false
		}
		found = append(found, b)
	}
	slices.SortFunc(found, func(a, b wal.Batch) int { return cmp.Compare(a.First, b.First) })
	lines, ok := wal.Chain(s.Manifest.End(), found...)
	if !ok || len(lines) > api.MaxMem {
		return false
	}
	for _, b := range found {
		s.batches = append(s.batches, b.First)
	}
	s.lay(lines)
	s.synced = s.End()
	return true
}

// otherNames is the names of all blobs but the manifest and the Spans' segments.
func (s *Store) otherNames() []string {
	own := append(namesOf(s.Manifest.Spans, segmentName), manifestName)
	return slices.DeleteFunc(s.vault.Names(), func(name string) bool { return slices.Contains(own, name) })
}
