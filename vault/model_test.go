package vault_test

import (
	"bytes"
	"encoding/binary"
	"hash/crc32"
	"maps"
	"math/rand"
	"regexp"
	"slices"
	"testing"

	"winnower/api"
	"winnower/sector"
	"winnower/super"
	"winnower/vault"
)

const slotsSize = 2 * api.SlotSize

// rootSteps is how many Writes and Flushes chapter 3's Commit takes.
const rootSteps = api.SlotSize + 1

var nameForm = regexp.MustCompile(`\A[a-z0-9]{1,8}\z`)

// model is a vault in plain words: of each name its data, and the sectors of these.
type model struct {
	size  int
	blobs map[string]laid
}

type laid struct {
	data []byte
	at   []int
}

func newModel(size int) *model {
	return &model{size, map[string]laid{}}
}

func (m *model) copy() *model {
	return &model{m.size, maps.Clone(m.blobs)}
}

func (m *model) names() []string {
	return slices.Sorted(maps.Keys(m.blobs))
}

func (m *model) owner() []string {
	list := make([]string, m.size)
	for i := range slotsSize {
		list[i] = "!"
	}
	for name, b := range m.blobs {
		for _, i := range b.at {
			list[i] = name
		}
	}
	return list
}

// run is a begin and a count.
type run [2]int

// runs is rising sectors as begins and counts.
func runs(at []int) []run {
	var list []run
	for i, s := range at {
		if i > 0 && at[i-1] == s-1 {
			list[len(list)-1][1]++
		} else {
			list = append(list, run{s, 1})
		}
	}
	return list
}

// line is a blob as the directory tells of it.
type line struct {
	name        string
	length, sum uint64
	runs        []run
}

// dirOf is a directory of any lines, in the order that they are handed in.
func dirOf(lines ...line) []byte {
	b := binary.AppendUvarint(nil, uint64(len(lines)))
	for _, l := range lines {
		b = binary.AppendUvarint(b, uint64(len(l.name)))
		b = append(b, l.name...)
		for _, n := range []uint64{l.length, l.sum, uint64(len(l.runs))} {
			b = binary.AppendUvarint(b, n)
		}
		for _, r := range l.runs {
			b = binary.AppendUvarint(b, uint64(r[0]))
			b = binary.AppendUvarint(b, uint64(r[1]))
		}
	}
	return b
}

func (m *model) image() []byte {
	var lines []line
	for _, name := range m.names() {
		b := m.blobs[name]
		lines = append(lines, line{name, uint64(len(b.data)), uint64(crc32.ChecksumIEEE(b.data)), runs(b.at)})
	}
	return dirOf(lines...)
}

// wrong is why a Commit may not be, whatever is free.
func (m *model) wrong(gone []string, put []vault.Blob) api.Errno {
	there := map[string]int{}
	for _, name := range gone {
		there[name]++
	}
	for _, b := range put {
		there[b.Name]++
	}
	for name, n := range there {
		if !nameForm.MatchString(name) || n > 1 {
			return api.ErrArg
		}
	}
	for _, name := range gone {
		if _, ok := m.blobs[name]; !ok {
			return api.ErrNone
		}
	}
	for _, b := range put {
		if len(b.Data) > api.MaxBlob {
			return api.ErrLong
		}
	}
	return api.OK
}

// commit is the vault behind a Commit that no disk stops; with an error nothing.
func (m *model) commit(gone []string, put ...vault.Blob) (*model, api.Errno) {
	if e := m.wrong(gone, put); e != api.OK {
		return nil, e
	}
	next, owner := m.copy(), m.owner()
	for _, name := range gone {
		delete(next.blobs, name)
	}
	for _, b := range put {
		var at []int
		for i := 0; i < m.size && len(at)*api.Sector < len(b.Data); i++ {
			if owner[i] == "" {
				owner[i] = b.Name
				at = append(at, i)
			}
		}
		if len(at)*api.Sector < len(b.Data) {
			return nil, api.ErrFull
		}
		next.blobs[b.Name] = laid{bytes.Clone(b.Data), at}
	}
	if len(next.image()) > api.MaxImage {
		return nil, api.ErrFull
	}
	return next, api.OK
}

// wants looks whether a vault tells what the model tells.
func (m *model) wants(t *testing.T, what any, v *vault.Vault) {
	t.Helper()
	if got := v.Names(); !slices.Equal(got, m.names()) {
		t.Errorf("%v: Names %q, want %q", what, got, m.names())
	}
	if got := v.Owner(); !slices.Equal(got, m.owner()) {
		t.Errorf("%v: Owner %q, want %q", what, got, m.owner())
	}
	free := m.size - slotsSize
	for name, b := range m.blobs {
		wantGet(t, what, v, name, b.data)
		free -= (len(b.data) + 63) / 64
	}
	if got := v.Free(); got != free {
		t.Errorf("%v: Free %d, want %d", what, got, free)
	}
}

// tells tells whether a vault has the model's blobs, wherever they lie.
func (m *model) tells(v *vault.Vault) bool {
	for name, b := range m.blobs {
		if data, e := v.Get(name); e != api.OK || !bytes.Equal(data, b.data) {
			return false
		}
	}
	return slices.Equal(v.Names(), m.names())
}

// wantsDisk looks whether the disk has what the model tells: its image, and in an opened vault its blobs.
func (m *model) wantsDisk(t *testing.T, what any, d *sector.Disk) *vault.Vault {
	t.Helper()
	s, e := super.Open(d)
	if e != api.OK || !bytes.Equal(s.Image(), m.image()) {
		t.Fatalf("%v: error %d, image % x, want % x", what, e, s.Image(), m.image())
	}
	v := open(t, what, d)
	m.wants(t, what, v)
	return v
}

func newDisk(t *testing.T, n int) *sector.Disk {
	t.Helper()
	d, e := sector.New(n)
	if e != api.OK {
		t.Fatalf("New(%d): %d", n, e)
	}
	return d
}

func format(t *testing.T, d *sector.Disk) *vault.Vault {
	t.Helper()
	v, e := vault.Format(d)
	if e != api.OK || v == nil || v.Dead() {
		t.Fatalf("Format: %v, %d", v, e)
	}
	return v
}

// fresh is a vault of none, its disk, and its model.
func fresh(t *testing.T, n int) (*vault.Vault, *sector.Disk, *model) {
	t.Helper()
	d := newDisk(t, n)
	return format(t, d), d, newModel(n)
}

func open(t *testing.T, what any, d *sector.Disk) *vault.Vault {
	t.Helper()
	v, e := vault.Open(d)
	if e != api.OK || v == nil || v.Dead() {
		t.Fatalf("%v: Open: %v, %d", what, v, e)
	}
	return v
}

func wantErr(t *testing.T, what any, got, want api.Errno) {
	t.Helper()
	if got != want {
		t.Errorf("%v: error %d, want %d", what, got, want)
	}
}

func wantGet(t *testing.T, what any, v *vault.Vault, name string, want []byte) {
	t.Helper()
	if got, e := v.Get(name); e != api.OK || !bytes.Equal(got, want) {
		t.Errorf("%v: Get(%q): % x, %d, want % x", what, name, got, e, want)
	}
}

func wantNoGet(t *testing.T, what any, v *vault.Vault, name string, want api.Errno) {
	t.Helper()
	if got, e := v.Get(name); e != want || len(got) != 0 {
		t.Errorf("%v: Get(%q): % x, %d, want error %d", what, name, got, e, want)
	}
}

func wantWaiting(t *testing.T, what any, d *sector.Disk, want ...int) {
	t.Helper()
	if got := d.Waiting(); !slices.Equal(got, want) {
		t.Errorf("%v: waiting %v, want %v", what, got, want)
	}
}

// wantFuse looks how much of a fuse is left, and takes the fuse away.
func wantFuse(t *testing.T, what any, d *sector.Disk, want int) {
	t.Helper()
	left := 0
	for d.Flush() == api.OK && left <= want {
		left++
	}
	if left != want {
		t.Errorf("%v: the fuse lets %d through, want %d", what, left, want)
	}
	d.Fuse(-1)
}

// dataOf is so many bytes, none of them 0, unlike those of another seed.
func dataOf(seed, size int) []byte {
	r := rand.New(rand.NewSource(int64(seed)))
	data := make([]byte, size)
	for i := range data {
		data[i] = byte(1 + r.Intn(255))
	}
	return data
}

func blob(name string, seed, size int) vault.Blob {
	return vault.Blob{Name: name, Data: dataOf(seed, size)}
}

// done makes a Commit that is to be done, and looks what the vault and the disk tell behind it.
func (m *model) done(t *testing.T, what any, v *vault.Vault, d *sector.Disk, gone []string, put ...vault.Blob) *model {
	t.Helper()
	next, want := m.commit(gone, put...)
	if want != api.OK {
		t.Fatalf("%v: error %d in plain words", what, want)
	}
	wantErr(t, what, v.Commit(gone, put...), api.OK)
	next.wants(t, what, v)
	next.wantsDisk(t, what, d)
	wantWaiting(t, what, d)
	return next
}

// refused makes a Commit that is to err, and looks whether it changed anything: on the disk, of the fuse, in the vault.
func (m *model) refused(t *testing.T, what any, v *vault.Vault, d *sector.Disk, want api.Errno, gone []string, put ...vault.Blob) {
	t.Helper()
	d.Fuse(3)
	for range 2 {
		wantErr(t, what, v.Commit(gone, put...), want)
	}
	wantWaiting(t, what, d)
	wantFuse(t, what, d, 3)
	m.wants(t, what, v)
	m.wantsDisk(t, what, d)
	if v.Dead() {
		t.Errorf("%v: dead", what)
	}
}

var someNames = []string{"a", "b", "c0", "zz", "00000000", "abcdefgh"}

// step makes a Commit of any kind, held against the model; some are wrong.
func (m *model) step(t *testing.T, r *rand.Rand, v *vault.Vault, d *sector.Disk) *model {
	t.Helper()
	gone, put := anyCommit(r)
	next, want := m.commit(gone, put...)
	wantErr(t, gone, v.Commit(gone, put...), want)
	if want != api.OK {
		next = m
	}
	next.wants(t, gone, v)
	next.wantsDisk(t, gone, d)
	return next
}

// anyCommit is what may be handed to a Commit, some of it wrong.
func anyCommit(r *rand.Rand) (gone []string, put []vault.Blob) {
	names := slices.Clone(someNames)
	if r.Intn(20) == 0 {
		names = append(names, "", "A", "abcdefghi", "a")
	}
	r.Shuffle(len(names), func(i, k int) { names[i], names[k] = names[k], names[i] })
	gone = names[:r.Intn(3)*r.Intn(2)]
	names = names[len(gone):]
	for range r.Intn(min(4, len(names))) {
		size := r.Intn(300)
		if r.Intn(4) == 0 {
			size = r.Intn(4) * api.Sector
		}
		put = append(put, blob(names[0], r.Int(), size))
		names = names[1:]
	}
	return gone, put
}

// P4.2, P4.3: many Commits, each held against plain words; now and then it is opened anew.
func TestStepsTellWhatPlainWordsTell(t *testing.T) {
	for seed := range 40 {
		r := rand.New(rand.NewSource(int64(seed)))
		v, d, m := fresh(t, slotsSize+r.Intn(25))
		for range 100 {
			m = m.step(t, r, v, d)
			if r.Intn(10) == 0 {
				v = open(t, seed, d)
			}
		}
		if t.Failed() {
			t.Fatal("seed", seed)
		}
	}
}
