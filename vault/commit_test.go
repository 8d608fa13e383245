package vault_test

import (
	"bytes"
	"math"
	"slices"
	"strconv"
	"strings"
	"testing"

	"winnower/api"
	"winnower/sector"
	"winnower/super"
	"winnower/vault"
)

// The words, and P4.2: what so many bytes take.
func TestNeed(t *testing.T) {
	for _, at := range []struct{ n, want int }{
		{0, 0}, {-1, 0}, {-63, 0}, {-64, 0}, {-65, 0}, {-1 << 40, 0}, {math.MinInt, 0}, {math.MinInt + 1, 0},
		{1, 1}, {2, 1}, {63, 1}, {64, 1}, {65, 2}, {127, 2}, {128, 2}, {129, 3},
		{api.MaxBlob - 1, 512}, {api.MaxBlob, 512}, {api.MaxBlob + 1, 513},
		{1 << 62, 1 << 56}, {1<<62 + 1, 1<<56 + 1},
		{math.MaxInt - 64, 1<<57 - 1}, {math.MaxInt - 63, 1<<57 - 1}, {math.MaxInt - 62, 1 << 57}, {math.MaxInt, 1 << 57},
	} {
		if got := vault.Need(at.n); got != at.want {
			t.Errorf("Need(%d) = %d, want %d", at.n, got, at.want)
		}
	}
}

// The example: P4.2, P4.3.
func TestExample(t *testing.T) {
	v, d, m := fresh(t, 64)
	m.done(t, "Commit", v, d, nil, blob("a", 1, 100))
	if v.Free() != 30 {
		t.Error(v.Free())
	}
}

// P4.2: data of any length, as they are cut into sectors.
func TestCommitOfAnySize(t *testing.T) {
	for _, size := range []int{0, 1, 2, 63, 64, 65, 127, 128, 129, 1000, api.MaxBlob - 1, api.MaxBlob} {
		v, d, m := fresh(t, slotsSize+(size+63)/64)
		m = m.done(t, size, v, d, nil, blob("a", size, size))
		if v.Free() != 0 {
			t.Errorf("%d bytes: Free %d", size, v.Free())
		}
		data := append(dataOf(size, size), make([]byte, 64)...)
		for k := range (size + 63) / 64 {
			if row, _ := d.Read(slotsSize + k); !bytes.Equal(row, data[64*k:64*k+64]) {
				t.Errorf("%d bytes: row %d is % x", size, k, row)
			}
		}
		d.Crash()
		m.wantsDisk(t, size, d)
	}
	v, d, m := fresh(t, api.MaxDisk)
	m.done(t, "of nil and of none", v, d, nil, vault.Blob{Name: "a"}, vault.Blob{Name: "b", Data: []byte{}})
}

// P4.2: nothing is put: no data are written, nothing but the directory.
func TestCommitOfNothing(t *testing.T) {
	v, d, m := fresh(t, 40)
	m = m.done(t, "a", v, d, nil, blob("a", 1, 100), blob("b", 2, 30))
	for i, do := range []func() api.Errno{
		func() api.Errno { return v.Commit(nil) },
		func() api.Errno { return v.Commit([]string{}, []vault.Blob{}...) },
		func() api.Errno { return v.Commit(nil, vault.Blob{Name: "b"}) },
		func() api.Errno { return v.Commit(nil, vault.Blob{Name: "c"}, vault.Blob{Name: "d"}) },
		func() api.Errno { return v.Commit([]string{"c"}) },
		func() api.Errno { return v.Commit([]string{"a", "b"}, vault.Blob{Name: "e"}) },
	} {
		s, _ := super.Open(d)
		d.Fuse(rootSteps)
		wantErr(t, i, do(), api.OK)
		wantErr(t, i, d.Flush(), api.ErrDead)
		d.Fuse(-1)
		after, _ := super.Open(d)
		if after.Number() != s.Number()+1 {
			t.Errorf("%d: number %d behind %d", i, after.Number(), s.Number())
		}
	}
	m = newModel(40)
	m.blobs = map[string]laid{"d": {}, "e": {}}
	m.wants(t, "behind all", v)
	m.wantsDisk(t, "behind all", d)
}

// P4.2: each gets the lowest free sectors, in the order that they are put, in as few extents as these make.
func TestCommitTakesTheLowestSectors(t *testing.T) {
	v, d, m := fresh(t, slotsSize+14)
	owner := func(what string, want string) {
		t.Helper()
		got := ""
		for _, whose := range v.Owner()[slotsSize:] {
			got += string(append([]byte(whose), '.')[0])
		}
		if got != want {
			t.Errorf("%s: %q, want %q", what, got, want)
		}
	}
	m = m.done(t, "three", v, d, nil, blob("c", 1, 100), blob("a", 2, 200), blob("b", 3, 64))
	owner("three", "ccaaaab.......")
	m = m.done(t, "gone", v, d, []string{"a"}, blob("d", 4, 64))
	owner("gone", "cc....bd......")
	m = m.done(t, "in the hole", v, d, nil, blob("z", 5, 64), blob("e", 6, 0), blob("f", 7, 129))
	owner("in the hole", "cczfffbd......")
	m = m.done(t, "replaced", v, d, nil, blob("c", 8, 1), blob("b", 9, 65))
	owner("replaced", "..zfff.dcbb...")
	m = m.done(t, "over holes", v, d, nil, blob("g", 10, 250))
	owner("over holes", "ggzfffgdcbbg..")
	m = m.done(t, "by turns", v, d, []string{"z", "b"}, blob("d", 11, 100))
	owner("by turns", "gg.fffg.c..gdd")
	m = m.done(t, "one sector each", v, d, nil, blob("h", 12, 60), blob("i", 13, 60), blob("j", 14, 60), blob("k", 15, 60))
	owner("one sector each", "gghfffgicjkgdd")
	m = m.done(t, "gone all", v, d, m.names())
	owner("gone all", "..............")
	m.done(t, "anew", v, d, nil, blob("k", 16, 14*64))
	owner("anew", "kkkkkkkkkkkkkk")
}

// P4.2: neighbours that came free one by one make one extent.
func TestCommitJoinsFreeSectors(t *testing.T) {
	v, d, m := fresh(t, slotsSize+8)
	var put []vault.Blob
	for k := range 8 {
		put = append(put, blob(strconv.Itoa(k), k, 50))
	}
	m = m.done(t, "eight", v, d, nil, put...)
	m = m.done(t, "gone", v, d, []string{"5", "2", "3"})
	m = m.done(t, "gone", v, d, []string{"4", "0"})
	m = m.done(t, "put", v, d, nil, blob("a", 9, 5*64))
	s, _ := super.Open(d)
	data := m.blobs["a"].data
	if want := dirLine(data, "a", run{32, 1}, run{34, 4}); !bytes.HasSuffix(s.Image(), want) {
		t.Errorf("% x has not % x", s.Image(), want)
	}
}

// dirLine is what a directory tells of a blob.
func dirLine(data []byte, name string, runs ...run) []byte {
	m := newModel(64)
	l := laid{data, nil}
	for _, r := range runs {
		for k := range r[1] {
			l.at = append(l.at, r[0]+k)
		}
	}
	m.blobs[name] = l
	return m.image()[1:]
}

// P4.2: what a Commit takes away or replaces is free only behind it.
func TestCommitFreesBehind(t *testing.T) {
	v, d, m := fresh(t, slotsSize+4)
	m = m.done(t, "full", v, d, nil, blob("a", 1, 128), blob("b", 2, 128))
	m.refused(t, "replaced", v, d, api.ErrFull, nil, blob("a", 3, 1))
	m.refused(t, "gone", v, d, api.ErrFull, []string{"a"}, blob("c", 3, 1))
	m.refused(t, "all gone", v, d, api.ErrFull, []string{"a", "b"}, blob("c", 3, 1))
	m = m.done(t, "of no byte", v, d, nil, blob("a", 3, 0))
	m.refused(t, "too great", v, d, api.ErrFull, nil, blob("b", 3, 129))
	m = m.done(t, "replaced", v, d, nil, blob("b", 3, 128))
	m = m.done(t, "and again", v, d, nil, blob("b", 4, 128))
	m = m.done(t, "gone", v, d, []string{"b"}, blob("a", 5, 70))
	m.done(t, "the other way", v, d, nil, blob("b", 6, 70))
}

// P4.2: as many as are free, and one more; a blob put ahead takes what the next one would have.
func TestCommitOfMoreThanIsFree(t *testing.T) {
	for _, free := range []int{0, 1, 2, 5, 30} {
		v, d, m := fresh(t, slotsSize+free)
		m.refused(t, free, v, d, api.ErrFull, nil, blob("a", 1, 64*free+1))
		m.refused(t, free, v, d, api.ErrFull, nil, blob("a", 1, 64*free), blob("b", 2, 1))
		m.refused(t, free, v, d, api.ErrFull, nil, blob("b", 2, 1), blob("a", 1, 64*free))
		m.refused(t, free, v, d, api.ErrFull, nil, vault.Blob{Name: "c"}, blob("a", 1, api.MaxBlob))
		m = m.done(t, free, v, d, nil, blob("a", 1, 64*free), vault.Blob{Name: "b"})
		m.refused(t, free, v, d, api.ErrFull, nil, blob("c", 1, 1))
		m.done(t, free, v, d, []string{"a"}, vault.Blob{Name: "c"})
	}
}

// emptyBlobs is blobs of no byte of which a directory has 805 bytes: 12 each.
func emptyBlobs() []vault.Blob {
	var put []vault.Blob
	for k := range 67 {
		put = append(put, vault.Blob{Name: "name00" + strconv.Itoa(10+k)})
	}
	return put
}

// P4.2: a directory of MaxImage bytes, and of one more.
func TestCommitOfTooGreatDirectory(t *testing.T) {
	v, d, m := fresh(t, 40)
	m.refused(t, "815", v, d, api.ErrFull, nil, append(emptyBlobs(), vault.Blob{Name: "abcdef"})...)
	all := m.done(t, "814", v, d, nil, append(emptyBlobs(), vault.Blob{Name: "abcde"})...)
	if len(all.image()) != api.MaxImage {
		t.Fatal(len(all.image()))
	}
	all.refused(t, "a blob more", v, d, api.ErrFull, nil, vault.Blob{Name: "a"})
	all.refused(t, "a blob more", v, d, api.ErrFull, nil, blob("a", 1, 1))
	all.refused(t, "a greater one", v, d, api.ErrFull, nil, blob("abcde", 1, 1))
	all.refused(t, "a longer name", v, d, api.ErrFull, []string{"abcde"}, vault.Blob{Name: "abcdef"})
	all.done(t, "another name", v, d, []string{"abcde"}, vault.Blob{Name: "edcba"})
	v, d, m = fresh(t, 40)
	m = m.done(t, "805", v, d, nil, emptyBlobs()...)
	m.refused(t, "the data would have room", v, d, api.ErrFull, nil, blob("abcdef", 1, 100), blob("b", 1, 100))
	m.refused(t, "of one byte", v, d, api.ErrFull, nil, blob("abcde", 1, 1))
	m = m.done(t, "instead of three", v, d, []string{"name0010", "name0076", "name0044"}, blob("abcdef", 1, 100), blob("b", 2, 5))
	m.done(t, "all gone", v, d, m.names())
}

// P4.2: many extents, too, are too many bytes.
func TestCommitOfTooManyExtents(t *testing.T) {
	d := imaged(t, api.MaxDisk, dirOf(line{"a", 0, 0, nil}))
	m := newModel(api.MaxDisk)
	m.blobs["a"] = laid{}
	var at []int
	for k := range 240 {
		at = append(at, slotsSize+2*k)
	}
	m.blobs["b"] = laid{make([]byte, 240*64), at}
	if _, e := super.Format(d, m.image()); e != api.OK {
		t.Fatal(e)
	}
	v := m.wantsDisk(t, "240 extents", d)
	m.refused(t, "as many again", v, d, api.ErrFull, nil, blob("c", 1, 200*64))
	m.refused(t, "too many bytes", v, d, api.ErrFull, []string{"a"}, blob("c", 1, 60*64))
	m = m.done(t, "some", v, d, nil, blob("c", 1, 12*64))
	m.done(t, "all", v, d, []string{"b"}, blob("a", 2, 10*64))
}

// wrongNames is texts that are no names.
func wrongNames() []string {
	return []string{"", "abcdefghi", "000000000", "A", "Z", "aB", "/", ":", "`", "{", "!", "a b", " a", "a\n", "\x00", "a\x00", "\xff", "é", "a_b", strings.Repeat("a", 1<<20)}
}

// P4.2: a name that is none, or is there twice, whatever else is wrong.
func TestCommitOfWrongNames(t *testing.T) {
	v, d, m := fresh(t, 45)
	m = m.done(t, "two", v, d, nil, blob("a", 1, 100), blob("b", 2, 100))
	long, full := blob("x", 1, api.MaxBlob+1), blob("y", 1, api.MaxBlob)
	for _, name := range wrongNames() {
		m.refused(t, name, v, d, api.ErrArg, []string{name})
		m.refused(t, name, v, d, api.ErrArg, []string{"none", name, "a"}, long, full)
		m.refused(t, name, v, d, api.ErrArg, nil, vault.Blob{Name: name})
		m.refused(t, name, v, d, api.ErrArg, []string{"none", "a"}, long, full, blob(name, 1, 5))
		m.refused(t, name, v, d, api.ErrArg, []string{name}, vault.Blob{Name: name})
	}
	m.refused(t, "gone twice", v, d, api.ErrArg, []string{"a", "a"})
	m.refused(t, "gone twice", v, d, api.ErrArg, []string{"a", "b", "a"})
	m.refused(t, "gone twice, and not there", v, d, api.ErrArg, []string{"none", "a", "none"}, long)
	m.refused(t, "put twice", v, d, api.ErrArg, nil, blob("c", 1, 1), blob("c", 1, 1))
	m.refused(t, "put twice", v, d, api.ErrArg, []string{"none"}, blob("c", 1, 1), long, full, blob("c", 2, 9))
	m.refused(t, "gone and put", v, d, api.ErrArg, []string{"a"}, blob("a", 1, 1))
	m.refused(t, "gone and put", v, d, api.ErrArg, []string{"b", "a", "none"}, long, full, blob("b", 1, 1))
	m.done(t, "at the edges", v, d, []string{"a"}, blob("0", 1, 1), blob("z", 1, 1), blob("9", 1, 1), blob("zzzzzzzz", 1, 1), blob("abcdefgh", 1, 1))
}

// P4.2: one of gone that is not there goes ahead of data that are too long, these ahead of too few sectors.
func TestCommitErrsInOrder(t *testing.T) {
	v, d, m := fresh(t, 40)
	m = m.done(t, "two", v, d, nil, blob("a", 1, 100), blob("b", 2, 100))
	long, full := blob("x", 1, api.MaxBlob+1), blob("y", 1, api.MaxBlob)
	for _, name := range []string{"c", "aa", "0", "zzzzzzzz", "x0", "a0"} {
		m.refused(t, name, v, d, api.ErrNone, []string{name})
		m.refused(t, name, v, d, api.ErrNone, []string{"a", "b", name})
		m.refused(t, name, v, d, api.ErrNone, []string{name, "a"}, blob("d", 1, 1))
		m.refused(t, name, v, d, api.ErrNone, []string{"a", name}, full, long)
		m.refused(t, name, v, d, api.ErrNone, []string{name}, append(emptyBlobs(), blob("abcdef", 1, 0))...)
	}
	for _, size := range []int{api.MaxBlob + 1, api.MaxBlob + 64, 1 << 20} {
		m.refused(t, size, v, d, api.ErrLong, nil, blob("x", 1, size))
		m.refused(t, size, v, d, api.ErrLong, []string{"a", "b"}, blob("a0", 1, 1), blob("x", 1, size))
		m.refused(t, size, v, d, api.ErrLong, nil, blob("x", 1, size), full)
		m.refused(t, size, v, d, api.ErrLong, nil, full, blob("x", 1, size))
		m.refused(t, size, v, d, api.ErrLong, nil, append(emptyBlobs(), blob("abcdef", 1, 0), blob("x", 1, size))...)
	}
	m.refused(t, "put, not there, not gone", v, d, api.ErrFull, nil, full)
	v, d, m = fresh(t, api.MaxDisk)
	m.refused(t, "of room enough", v, d, api.ErrLong, nil, long)
	m.done(t, "of MaxBlob", v, d, nil, full)
}

// wantDead looks whether a dead vault tells what it told, and writes nothing.
func (m *model) wantDead(t *testing.T, what any, v *vault.Vault, d *sector.Disk) {
	t.Helper()
	waiting := d.Waiting()
	wantErr(t, what, v.Commit(nil), api.ErrDead)
	wantErr(t, what, v.Commit([]string{""}), api.ErrDead)
	wantErr(t, what, v.Commit([]string{"none"}, vault.Blob{Name: "a"}, vault.Blob{Name: "a"}), api.ErrDead)
	wantErr(t, what, v.Commit(nil, blob("x", 1, api.MaxBlob+1)), api.ErrDead)
	wantErr(t, what, v.Commit(nil, blob("x", 1, api.MaxBlob)), api.ErrDead)
	if !v.Dead() {
		t.Errorf("%v: not dead", what)
	}
	wantWaiting(t, what, d, waiting...)
	m.wants(t, what, v)
}

// holed is a vault with a hole of one sector and one of two, and what to put there: the data lie in 33, 36, 37, 38 and 40.
func holed(t *testing.T) (*vault.Vault, *sector.Disk, *model, []vault.Blob) {
	t.Helper()
	v, d, m := fresh(t, 44)
	m = m.done(t, "laid", v, d, nil, blob("a", 1, 64), blob("b", 2, 10), blob("c", 3, 128), blob("d", 4, 190), blob("e", 5, 1))
	m = m.done(t, "holes", v, d, []string{"b", "d"})
	return v, d, m, []vault.Blob{blob("z", 6, 190), {Name: "n"}, blob("a", 7, 128), {Name: "o"}}
}

// P4.2: the fuse burns at each write and flush: the data, sector by sector, in order; a Flush; chapter 3's Commit.
func TestCommitByTheFuse(t *testing.T) {
	at := []int{33, 36, 37, 38, 40}
	rows := [][]byte{dataOf(6, 190)[:64], dataOf(6, 190)[64:128], dataOf(6, 190)[128:], dataOf(7, 128)[:64], dataOf(7, 128)[64:]}
	for n := range len(at) + 1 + rootSteps {
		v, d, m, put := holed(t)
		next, _ := m.commit([]string{"e"}, put...)
		d.Fuse(n)
		wantErr(t, n, v.Commit([]string{"e"}, put...), api.ErrDead)
		var waiting []int
		for k, row := range rows[:min(n, len(at))] {
			if got, _ := d.Read(at[k]); !bytes.Equal(got, append(row, make([]byte, 64-len(row))...)) {
				t.Errorf("a fuse of %d: sector %d is % x", n, at[k], got)
			}
			if n <= len(at) {
				waiting = append(waiting, at[k])
			}
		}
		image := super.Pack(4, next.image())
		for k := range max(0, n-len(at)-1) {
			if got, _ := d.Read(api.SlotSize + k); !bytes.Equal(got, image[k]) {
				t.Errorf("a fuse of %d: the slot's sector %d is % x, want % x", n, k, got, image[k])
			}
			waiting = append(waiting, api.SlotSize+k)
		}
		wantWaiting(t, n, d, waiting...)
		m.wantDead(t, n, v, d)
		d.Fuse(-1)
		m.wantDead(t, n, v, d)
		d.Crash()
		m.wantDead(t, n, v, d)
		again := m.wantsDisk(t, n, d)
		m.done(t, n, again, d, []string{"e"}, put...)
	}
}

// P4.2: a fuse that is long enough does not stop it: five sectors, a Flush, and chapter 3's.
func TestCommitEndsWithTheFuse(t *testing.T) {
	v, d, m, put := holed(t)
	next, _ := m.commit([]string{"e"}, put...)
	d.Fuse(5 + 1 + rootSteps)
	wantErr(t, "just enough", v.Commit([]string{"e"}, put...), api.OK)
	next.wants(t, "just enough", v)
	wantErr(t, "no more", v.Commit(nil), api.ErrDead)
	next.wantDead(t, "no more", v, d)
	d.Crash()
	next.wantsDisk(t, "behind it", d)
}

// P4.2: chapter 3's Commit errs, too: at the greatest number, behind the data.
func TestCommitAtGreatestNumber(t *testing.T) {
	m := newModel(40)
	m.blobs["a"] = laid{}
	for i, put := range [][]vault.Blob{nil, {{Name: "c"}}, {blob("c", 1, 100)}} {
		d := newDisk(t, 40)
		for k, row := range super.Pack(1<<50, m.image()) {
			d.Write(k, row...)
		}
		d.Flush()
		v := open(t, i, d)
		wantErr(t, i, v.Commit([]string{""}, put...), api.ErrArg)
		d.Fuse(10)
		wantErr(t, i, v.Commit([]string{"a"}, put...), api.ErrLong)
		wantWaiting(t, i, d)
		m.wantDead(t, i, v, d)
		m.wantsDisk(t, i, d)
		left := 10
		if i == 2 {
			left = 7
			if row, _ := d.Read(33); !bytes.Equal(row[:36], dataOf(1, 100)[64:]) {
				t.Errorf("% x", row)
			}
		}
		wantFuse(t, i, d, left)
	}
}

// P4.2: blobs in the directory are by names, in whatever order they are put.
func TestCommitKeepsNamesRising(t *testing.T) {
	v, d, m := fresh(t, 60)
	for _, name := range []string{"m", "a", "zz", "z", "0", "aa", "a0", "9", "w10", "w9"} {
		m = m.done(t, name, v, d, nil, blob(name, len(name), 70))
	}
	if got := v.Names(); !slices.Equal(got, []string{"0", "9", "a", "a0", "aa", "m", "w10", "w9", "z", "zz"}) {
		t.Errorf("%q", got)
	}
	m = m.done(t, "gone", v, d, []string{"zz", "0", "m"}, blob("n", 1, 5), blob("1", 2, 5), blob("w9", 3, 3))
	if got := v.Names(); !slices.Equal(got, []string{"1", "9", "a", "a0", "aa", "n", "w10", "w9", "z"}) {
		t.Errorf("%q", got)
	}
	m.done(t, "all gone", v, d, []string{"z", "n", "9", "1", "a", "w9", "w10", "aa", "a0"})
}

// W9: a crash meanwhile takes nothing of what was done, and a vault that is not dead goes on.
func TestCrashMeanwhile(t *testing.T) {
	v, d, m := fresh(t, 70)
	for n := range 10 {
		d.Crash()
		m = m.done(t, n, v, d, nil, blob(someNames[n%3], n, 40*n))
		d.Crash(1, 0, 1)
		m.wants(t, n, v)
	}
}

// W1: a Vault that neither Format nor Open made has no disk.
func TestVaultOfNoDisk(t *testing.T) {
	var v vault.Vault
	if v.Free() != 0 || len(v.Names()) != 0 || len(v.Owner()) != 0 {
		t.Error(v.Free(), v.Names(), v.Owner())
	}
	wantNoGet(t, "no disk", &v, "a", api.ErrNone)
	if e := v.Commit(nil, blob("a", 1, 1)); e == api.OK {
		t.Error("Commit on no disk is done")
	}
	if e := v.Commit(nil); e == api.OK {
		t.Error("Commit on no disk is done")
	}
}
