package vault_test

import (
	"bytes"
	"encoding/binary"
	"math"
	"math/rand"
	"slices"
	"strings"
	"testing"

	"winnower/api"
	"winnower/sector"
	"winnower/super"
	"winnower/vault"
)

// P4.1
func TestOfTooFewSectors(t *testing.T) {
	disks := []*sector.Disk{nil, {}}
	for _, n := range []int{1, 2, api.SlotSize, slotsSize - 1} {
		d := newDisk(t, n)
		for k, row := range super.Pack(1, dirOf()) {
			d.Write(k, row...)
		}
		d.Flush()
		disks = append(disks, d)
	}
	for i, d := range disks {
		if v, e := vault.Open(d); v != nil || e != api.ErrArg {
			t.Errorf("%d: Open: %v, %d", i, v, e)
		}
		if v, e := vault.Format(d); v != nil || e != api.ErrArg {
			t.Errorf("%d: Format: %v, %d", i, v, e)
		}
		wantWaiting(t, i, d)
	}
}

// P4.1: a vault of none, whatever was there.
func TestFormat(t *testing.T) {
	for _, n := range []int{slotsSize, slotsSize + 1, 64, api.MaxDisk} {
		v, d, m := fresh(t, n)
		m.wants(t, n, v)
		m.wantsDisk(t, n, d)
		s, _ := super.Open(d)
		if !bytes.Equal(s.Image(), []byte{0}) || s.Number() != 1 {
			t.Errorf("image % x, number %d", s.Image(), s.Number())
		}
		for name := range min(3, n-slotsSize) {
			m = m.done(t, n, v, d, nil, blob(someNames[name], name, 50))
		}
		m = newModel(n)
		m.wants(t, n, format(t, d))
		m.done(t, n, m.wantsDisk(t, n, d), d, nil, vault.Blob{Name: "b"})
	}
}

// P4.1: chapter 3's Format and no more, by the fuse.
func TestFormatByTheFuse(t *testing.T) {
	for n := range 2 * rootSteps {
		d := newDisk(t, slotsSize+1)
		d.Fuse(n)
		if v, e := vault.Format(d); v != nil || e != api.ErrDead {
			t.Errorf("a fuse of %d: %v, %d", n, v, e)
		}
	}
	d := newDisk(t, slotsSize+1)
	d.Fuse(2*rootSteps + 2)
	format(t, d)
	wantFuse(t, "Format", d, 2)
}

// P4.1: chapter 3's errors.
func TestOpenOfNoImage(t *testing.T) {
	for _, n := range []int{slotsSize, slotsSize + 10} {
		d := newDisk(t, n)
		if v, e := vault.Open(d); v != nil || e != api.ErrForm {
			t.Errorf("noughts: %v, %d", v, e)
		}
		format(t, d)
		d.Write(3, 1)
		if v, e := vault.Open(d); v != nil || e != api.ErrForm {
			t.Errorf("a spoilt slot: %v, %d", v, e)
		}
	}
}

// imaged is a disk with an image.
func imaged(t *testing.T, n int, image []byte) *sector.Disk {
	t.Helper()
	d := newDisk(t, n)
	if _, e := super.Format(d, image); e != api.OK {
		t.Fatal(e)
	}
	return d
}

// wantOpens looks whether an image is a directory on a disk of n sectors; then whose each sector is, from the slots on.
func wantOpens(t *testing.T, what any, n int, image []byte, names []string, owner ...string) {
	t.Helper()
	d := imaged(t, n, image)
	v := open(t, what, d)
	if got := v.Names(); !slices.Equal(got, names) {
		t.Errorf("%v: Names %q, want %q", what, got, names)
	}
	if got := v.Owner()[slotsSize:]; !slices.Equal(got, owner) {
		t.Errorf("%v: Owner %q, want %q", what, got, owner)
	}
	for i, whose := range v.Owner()[:slotsSize] {
		if whose != "!" {
			t.Errorf("%v: sector %d is of %q", what, i, whose)
		}
	}
	free := len(owner)
	for _, whose := range owner {
		if whose != "" {
			free--
		}
	}
	if v.Free() != free {
		t.Errorf("%v: Free %d, want %d", what, v.Free(), free)
	}
	wantWaiting(t, what, d)
	wantErr(t, what, v.Commit(nil), api.OK)
	s, _ := super.Open(d)
	if !bytes.Equal(s.Image(), image) || s.Number() != 2 {
		t.Errorf("%v: behind a Commit of nothing % x, want % x", what, s.Image(), image)
	}
}

func wantNoneOpens(t *testing.T, what any, n int, image []byte) {
	t.Helper()
	d := imaged(t, n, image)
	if v, e := vault.Open(d); v != nil || e != api.ErrForm {
		t.Errorf("%v: Open: %v, %d, want ErrForm", what, v, e)
	}
	wantWaiting(t, what, d)
}

// P4.1: directories that may be.
func TestOpenOfDirectories(t *testing.T) {
	a := []string{"a"}
	wantOpens(t, "none", slotsSize, dirOf(), nil)
	wantOpens(t, "none", 34, dirOf(), nil, "", "")
	wantOpens(t, "of no byte", slotsSize, dirOf(line{"a", 0, 0, nil}), a)
	wantOpens(t, "of no byte, and a Sum", 33, dirOf(line{"a", 0, 77, nil}), a, "")
	wantOpens(t, "one byte", 34, dirOf(line{"a", 1, 0, []run{{32, 1}}}), a, "a", "")
	wantOpens(t, "at the end", 34, dirOf(line{"a", 64, 1<<32 - 1, []run{{33, 1}}}), a, "", "a")
	wantOpens(t, "all there is", 34, dirOf(line{"a", 65, 9, []run{{32, 2}}}), a, "a", "a")
	wantOpens(t, "a hole", 35, dirOf(line{"a", 128, 9, []run{{32, 1}, {34, 1}}}), a, "a", "", "a")
	wantOpens(t, "holes", 38, dirOf(line{"a", 200, 9, []run{{32, 1}, {34, 2}, {37, 1}}}), a, "a", "", "a", "a", "", "a")
	wantOpens(t, "one behind the other", 35, dirOf(line{"a", 128, 9, []run{{32, 2}}}, line{"b", 7, 9, []run{{34, 1}}}), []string{"a", "b"}, "a", "a", "b")
	wantOpens(t, "the other ahead", 35, dirOf(line{"a", 128, 9, []run{{33, 2}}}, line{"b", 7, 9, []run{{32, 1}}}), []string{"a", "b"}, "b", "a", "a")
	wantOpens(t, "by turns", 36, dirOf(line{"a", 128, 9, []run{{32, 1}, {34, 1}}}, line{"b", 128, 9, []run{{33, 1}, {35, 1}}}), []string{"a", "b"}, "a", "b", "a", "b")
}

// P4.1
func TestOpenOfGreatBlobs(t *testing.T) {
	sectors := api.MaxBlob / api.Sector
	for _, n := range []int{slotsSize + sectors, api.MaxDisk} {
		d := imaged(t, n, dirOf(line{"a", api.MaxBlob, 9, []run{{n - sectors, sectors}}}))
		if v := open(t, n, d); v.Free() != n-slotsSize-sectors || v.Owner()[n-1] != "a" || v.Owner()[n-sectors] != "a" || n > 600 && v.Owner()[n-sectors-1] != "" {
			t.Errorf("%d: Free %d", n, v.Free())
		}
	}
	for length := api.MaxBlob + 1; length < api.MaxBlob+200; length += 30 {
		wantNoneOpens(t, length, api.MaxDisk, dirOf(line{"a", uint64(length), 9, []run{{32, (length + 63) / 64}}}))
	}
	wantNoneOpens(t, "all of the disk", api.MaxDisk, dirOf(line{"a", uint64(64 * (api.MaxDisk - slotsSize)), 9, []run{{32, api.MaxDisk - slotsSize}}}))
}

// P4.1: names at the edges.
func TestOpenOfNames(t *testing.T) {
	for _, name := range []string{"0", "9", "a", "z", "09az", "00000000", "zzzzzzzz", "m", "s1234567"} {
		wantOpens(t, name, 32, dirOf(line{name, 0, 0, nil}), []string{name})
	}
	for _, name := range []string{"", "zzzzzzzzz", "aaaaaaaaa", "A", "Z", "/", ":", "`", "{", "!", " ", "a b", "a\x00", "\x00", "\xff", "é", "aé", "a-", "abcdefg_", strings.Repeat("a", 100)} {
		wantNoneOpens(t, name, 32, dirOf(line{name, 0, 0, nil}))
		wantNoneOpens(t, name, 32, dirOf(line{"a", 0, 0, nil}, line{name, 0, 0, nil}))
	}
	for _, names := range [][]string{{"a", "b"}, {"a", "aa"}, {"0", "a"}, {"9", "a"}, {"a0", "aa"}, {"az", "b"}, {"a", "aa", "ab", "b", "ba"}} {
		var lines []line
		for _, name := range names {
			lines = append(lines, line{name, 0, 0, nil})
		}
		wantOpens(t, names, 32, dirOf(lines...), names)
		for k := range lines {
			wantNoneOpens(t, "twice", 32, dirOf(slices.Insert(slices.Clone(lines), k, lines[k])...))
		}
		slices.Reverse(lines)
		wantNoneOpens(t, "falling", 32, dirOf(lines...))
	}
}

// P4.1: bytes that are no directory.
func TestOpenOfOtherBytes(t *testing.T) {
	whole := dirOf(line{"a", 200, 300, []run{{32, 1}, {34, 2}, {37, 1}}}, line{"b", 0, 0, nil}, line{"c", 9, 1 << 31, []run{{36, 1}}})
	wantOpens(t, "whole", 40, whole, []string{"a", "b", "c"}, "a", "", "a", "a", "c", "a", "", "")
	for k := range whole {
		wantNoneOpens(t, k, 40, whole[:k])
	}
	wantNoneOpens(t, "of no byte", 32, nil)
	for _, more := range [][]byte{{0}, {1}, whole, make([]byte, 100)} {
		wantNoneOpens(t, "bytes behind it", 40, append(bytes.Clone(whole), more...))
		wantNoneOpens(t, "bytes behind none", 40, append(dirOf(), more...))
	}
	for _, n := range []uint64{0, 1, 2, 4, 5, 127, 128, 1 << 31, 1 << 40, 1 << 62, 1<<62 + 1, 1 << 63, math.MaxUint64} {
		wantNoneOpens(t, n, 40, append(binary.AppendUvarint(nil, n), whole[1:]...))
	}
	for _, n := range []uint64{1, 2, 127, 1 << 31, 1 << 62, math.MaxUint64} {
		wantNoneOpens(t, n, 40, binary.AppendUvarint(nil, n))
		// Of a blob of no byte: so many bytes of its name, or so many extents.
		wantNoneOpens(t, n, 40, append(binary.AppendUvarint([]byte{1}, n+1), "a\x00\x00\x00"...))
		wantNoneOpens(t, n, 40, binary.AppendUvarint([]byte{1, 1, 'a', 0, 0}, n))
	}
	// Numbers with a byte more than needed.
	wantNoneOpens(t, "a count", 40, []byte{0x80, 0})
	wantNoneOpens(t, "a length", 40, []byte{1, 1, 'a', 0x80, 0, 0, 0})
	wantNoneOpens(t, "a begin", 40, []byte{1, 1, 'a', 1, 0, 1, 0xa0, 0, 1})
}

// P4.1: lengths, Sums and extents that may not be, each beside one that may.
func TestOpenOfWrongLines(t *testing.T) {
	for _, at := range []struct {
		length, sum uint64
		runs        []run
		ok          bool
	}{
		{100, 0, []run{{34, 2}}, true},
		{65, 0, []run{{34, 2}}, true},
		{128, 0, []run{{34, 2}}, true},
		{64, 0, []run{{34, 2}}, false},
		{129, 0, []run{{34, 2}}, false},
		{0, 0, []run{{34, 1}}, false},
		{1, 0, nil, false},
		{1 << 61, 0, []run{{34, 2}}, false},
		{1 << 62, 0, []run{{34, 2}}, false},
		{1<<62 + 1, 0, []run{{34, 2}}, false},
		{100, 1<<32 - 1, []run{{34, 2}}, true},
		{100, 1 << 32, []run{{34, 2}}, false},
		{100, 1<<32 + 5, []run{{34, 2}}, false},
		{100, 1 << 62, []run{{34, 2}}, false},
		{100, 0, []run{{32, 2}}, true},
		{100, 0, []run{{31, 2}}, false},
		{100, 0, []run{{30, 2}}, false},
		{100, 0, []run{{0, 2}}, false},
		{100, 0, []run{{15, 2}}, false},
		{100, 0, []run{{38, 2}}, true},
		{100, 0, []run{{39, 2}}, false},
		{100, 0, []run{{40, 2}}, false},
		{100, 0, []run{{4096, 2}}, false},
		{100, 0, []run{{1 << 62, 2}}, false},
		{100, 0, []run{{34, 1 << 62}}, false},
		{100, 0, []run{{1 << 62, 1 << 62}}, false},
		{100, 0, []run{{34, 1}}, false},
		{100, 0, []run{{34, 3}}, false},
		{100, 0, []run{{34, 0}}, false},
		{0, 0, []run{{34, 0}}, false},
		{100, 0, []run{{34, 2}, {37, 0}}, false},
		{100, 0, []run{{33, 0}, {34, 2}}, false},
		{100, 0, []run{{34, 1}, {36, 1}}, true},
		{100, 0, []run{{34, 1}, {35, 1}}, false},
		{100, 0, []run{{36, 1}, {34, 1}}, false},
		{100, 0, []run{{35, 1}, {34, 1}}, false},
		{100, 0, []run{{34, 1}, {34, 1}}, false},
		{150, 0, []run{{34, 2}, {35, 1}}, false},
		{150, 0, []run{{34, 2}, {36, 1}}, false},
		{150, 0, []run{{34, 2}, {37, 1}}, true},
		{150, 0, []run{{37, 1}, {34, 2}}, false},
		{150, 0, []run{{34, 1}, {36, 1}}, false},
		{100, 0, []run{{34, 1}, {36, 1}, {38, 1}}, false},
		{100, 0, []run{{34, 1}, {40, 1}}, false},
		// Were ends or counts to wrap, these would be nowhere, and of no sector.
		{0, 0, []run{{1 << 62, 1 << 62}, {1 << 62, 1 << 62}, {1 << 62, 1 << 62}, {1 << 62, 1 << 62}}, false},
		{0, 0, []run{{1, 1 << 62}, {2, 1 << 62}, {3, 1 << 62}, {4, 1 << 62}}, false},
		{100, 0, []run{{34, 2}, {1 << 62, 1 << 62}, {1 << 62, 1 << 62}, {1 << 62, 1 << 62}, {1 << 62, 1 << 62}}, false},
		{100, 0, []run{{31, 1}, {34, 1}}, false},
	} {
		image := dirOf(line{"b", at.length, at.sum, at.runs})
		if !at.ok {
			wantNoneOpens(t, at, 40, image)
			continue
		}
		owner := make([]string, 8)
		for _, r := range at.runs {
			for k := range r[1] {
				owner[r[0]+k-slotsSize] = "b"
			}
		}
		wantOpens(t, at, 40, image, []string{"b"}, owner...)
	}
}

// P4.1: extents of two blobs over one another, and side by side.
func TestOpenOfExtentsOverOthers(t *testing.T) {
	two := func(a, b line) []byte {
		a.name, b.name = "a", "b"
		return dirOf(a, b)
	}
	b := line{"", 190, 0, []run{{35, 2}, {38, 1}}}
	for begin := slotsSize; begin <= 42; begin++ {
		for count := 1; count <= 9; count++ {
			a := line{"", uint64(64 * count), 0, []run{{begin, count}}}
			over := begin+count > 43
			for _, i := range []int{35, 36, 38} {
				over = over || begin <= i && i < begin+count
			}
			for _, image := range [][]byte{two(a, b), two(b, a)} {
				v, e := vault.Open(imaged(t, 43, image))
				if over != (e == api.ErrForm) || over == (e == api.OK) || (v == nil) != over {
					t.Errorf("%d sectors from %d on: %v, %d", count, begin, v, e)
				}
			}
		}
	}
}

// plainDir reads a directory in plain words; false, if it is none of a disk of n sectors.
func plainDir(image []byte, n int) (owner []string, ok bool) {
	rest, ok := image, true
	num := func() uint64 {
		x, size := binary.Uvarint(rest)
		ok = ok && size > 0 && x <= 1<<62 && len(binary.AppendUvarint(nil, x)) == size
		rest = rest[max(0, min(size, len(rest))):]
		return x
	}
	owner = make([]string, n)
	last := ""
	for blobs := num(); ok && blobs > 0; blobs-- {
		size := num()
		if !ok || size > uint64(len(rest)) {
			return nil, false
		}
		name := string(rest[:size])
		rest = rest[size:]
		length, sum := num(), num()
		ok = ok && nameForm.MatchString(name) && name > last && length <= api.MaxBlob && sum < 1<<32
		need, next := (length+63)/64, uint64(slotsSize)
		for k := num(); ok && k > 0; k-- {
			begin, count := num(), num()
			if !ok || begin < next || count < 1 || begin >= uint64(n) || count > uint64(n)-begin || count > need {
				return nil, false
			}
			for i := begin; i < begin+count; i++ {
				ok = ok && owner[i] == ""
				owner[i] = name
			}
			need, next = need-count, begin+count+1
		}
		ok, last = ok && need == 0, name
	}
	return owner[slotsSize:], ok && len(rest) == 0
}

// P4.1: directories of which a few bytes are others, held against plain words.
func TestOpenOfSpoiltDirectories(t *testing.T) {
	r := rand.New(rand.NewSource(1))
	opened := 0
	for round := range 6000 {
		m := newModel(slotsSize + 12)
		for range r.Intn(6) {
			gone, put := anyCommit(r)
			if next, e := m.commit(gone, put...); e == api.OK {
				m = next
			}
		}
		image := m.image()
		for range r.Intn(3) {
			image[r.Intn(len(image))] += byte(r.Intn(5) - 2)
		}
		owner, ok := plainDir(image, m.size)
		v, e := vault.Open(imaged(t, m.size, image))
		if ok != (e == api.OK) || !ok && e != api.ErrForm || ok != (v != nil) {
			t.Fatalf("%d: % x: %v, %d, want %v", round, image, v, e, ok)
		}
		if ok {
			opened++
			if got := v.Owner()[slotsSize:]; !slices.Equal(got, owner) {
				t.Fatalf("%d: % x: Owner %q, want %q", round, image, got, owner)
			}
		}
	}
	if opened < 1500 || opened > 5500 {
		t.Error("directories that were opened:", opened)
	}
}

// P4.1: data are not read, and nothing is written; what waits is read as it is.
func TestOpenReadsTheDirectoryAlone(t *testing.T) {
	v, d, m := fresh(t, 40)
	m = m.done(t, "a", v, d, nil, blob("a", 1, 100), blob("b", 2, 70))
	for i := slotsSize; i < 40; i++ {
		d.Write(i, 7)
	}
	d.Fuse(1)
	for range 2 {
		again := open(t, "spoilt", d)
		if !slices.Equal(again.Names(), m.names()) || !slices.Equal(again.Owner(), m.owner()) {
			t.Error(again.Names(), again.Owner())
		}
		wantNoGet(t, "spoilt", again, "a", api.ErrForm)
	}
	if len(d.Waiting()) != 8 {
		t.Error("waiting", d.Waiting())
	}
	wantFuse(t, "Open", d, 1)
	next, _ := m.commit(nil, blob("c", 3, 0))
	for k, row := range super.Pack(9, next.image()) {
		d.Write(k, row...)
	}
	if got := open(t, "waiting", d).Names(); !slices.Equal(got, []string{"a", "b", "c"}) {
		t.Errorf("%q", got)
	}
	d.Crash()
	if got := open(t, "forgotten", d).Names(); !slices.Equal(got, []string{"a", "b"}) {
		t.Errorf("%q", got)
	}
}
