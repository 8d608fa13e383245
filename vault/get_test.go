package vault_test

import (
	"bytes"
	"slices"
	"strings"
	"testing"

	"winnower/api"
	"winnower/sector"
	"winnower/vault"
)

// P4.3
func TestGetOfNone(t *testing.T) {
	v, d, m := fresh(t, 40)
	names := append(wrongNames(), "b", "c", "aa", "0", "zzzzzzzz")
	for _, name := range append(names, "a") {
		wantNoGet(t, "empty", v, name, api.ErrNone)
	}
	m = m.done(t, "a", v, d, nil, blob("a", 1, 100), vault.Blob{Name: "bb"})
	for _, name := range names {
		wantNoGet(t, "two", v, name, api.ErrNone)
	}
	wantGet(t, "two", v, "bb", nil)
	m = m.done(t, "gone", v, d, []string{"a"}, blob("b", 2, 5))
	for _, name := range []string{"a", "!", ""} {
		wantNoGet(t, "gone", v, name, api.ErrNone)
		wantNoGet(t, "gone", m.wantsDisk(t, "gone", d), name, api.ErrNone)
	}
}

// P4.3: each byte of a blob that is another one, in each digit; what stands behind its end is not of it.
func TestGetOfSpoiltData(t *testing.T) {
	v, d, m := fresh(t, 40)
	m = m.done(t, "holes", v, d, nil, blob("x", 1, 1), blob("y", 2, 64), blob("z", 3, 1))
	m = m.done(t, "holes", v, d, []string{"x", "z"})
	m = m.done(t, "laid", v, d, nil, blob("a", 4, 150), vault.Blob{Name: "b"})
	for k, i := range m.blobs["a"].at {
		row, _ := d.Read(i)
		for n := range row {
			other := bytes.Clone(row)
			other[n] ^= 1 << (n % 8)
			d.Write(i, other...)
			for _, v := range []*vault.Vault{v, open(t, n, d)} {
				if 64*k+n < 150 {
					wantNoGet(t, []int{i, n}, v, "a", api.ErrForm)
				} else {
					wantGet(t, []int{i, n}, v, "a", m.blobs["a"].data)
				}
				wantGet(t, n, v, "b", nil)
				wantGet(t, n, v, "y", m.blobs["y"].data)
			}
			if v.Dead() || !slices.Equal(v.Names(), m.names()) || !slices.Equal(v.Owner(), m.owner()) {
				t.Error("spoilt data change what is told of the vault")
			}
		}
		d.Write(i, row...)
		wantGet(t, i, v, "a", m.blobs["a"].data)
	}
	d.Write(m.blobs["a"].at[0])
	wantErr(t, "replaced", v.Commit(nil, blob("a", 5, 150)), api.OK)
	wantGet(t, "replaced", v, "a", dataOf(5, 150))
}

// P4.3: a blob of no byte whose Sum is another one, and sectors that are one another's.
func TestGetOfWrongSum(t *testing.T) {
	d := imaged(t, 36, dirOf(line{"a", 0, 0, nil}, line{"b", 0, 1, nil}))
	v := open(t, "none", d)
	wantGet(t, "Sum of nothing", v, "a", nil)
	wantNoGet(t, "another Sum", v, "b", api.ErrForm)
	v, d, _ = fresh(t, 36)
	wantErr(t, "laid", v.Commit(nil, blob("a", 1, 128), blob("b", 2, 128)), api.OK)
	first, _ := d.Read(32)
	second, _ := d.Read(33)
	d.Write(32, second...)
	d.Write(33, first...)
	wantNoGet(t, "turned", v, "a", api.ErrForm)
	wantGet(t, "turned", v, "b", dataOf(2, 128))
}

// P4.3: what waits on the disk is read as it is; a burnt fuse stops nothing.
func TestGetReadsTheDisk(t *testing.T) {
	v, d, m := fresh(t, 40)
	m = m.done(t, "a", v, d, nil, blob("a", 1, 100))
	d.Fuse(0)
	m.wants(t, "a burnt fuse", v)
	m.wants(t, "a burnt fuse", open(t, "a burnt fuse", d))
	d.Fuse(-1)
	d.Write(33, 1, 2, 3)
	wantNoGet(t, "waiting", v, "a", api.ErrForm)
	d.Crash()
	m.wants(t, "forgotten", v)
}

// P4.3: on the greatest disk.
func TestOwnerOfGreatDisk(t *testing.T) {
	v, d, m := fresh(t, api.MaxDisk)
	var put []vault.Blob
	for k := range 7 {
		put = append(put, blob(strings.Repeat("n", k+1), k, api.MaxBlob))
	}
	m = m.done(t, "seven", v, d, nil, put...)
	m = m.done(t, "the rest", v, d, nil, blob("a", 1, 64*480))
	if v.Free() != 0 || v.Owner()[api.MaxDisk-1] != "a" || v.Owner()[slotsSize] != "n" {
		t.Error(v.Free())
	}
	m.done(t, "gone", v, d, []string{"n", "nnn"})
}

// P4.4
func TestNilVault(t *testing.T) {
	var v *vault.Vault
	wantErr(t, "nothing", v.Commit(nil), api.ErrArg)
	wantErr(t, "a blob", v.Commit(nil, blob("a", 1, 1)), api.ErrArg)
	wantErr(t, "gone", v.Commit([]string{"a"}), api.ErrArg)
	wantErr(t, "long", v.Commit([]string{"none"}, blob("a", 1, api.MaxBlob+1)), api.ErrArg)
	for _, name := range append(wrongNames(), "a") {
		wantNoGet(t, "nil", v, name, api.ErrNone)
	}
	if len(v.Names()) != 0 || v.Free() != 0 || len(v.Owner()) != 0 || !v.Dead() {
		t.Error(v.Names(), v.Free(), v.Owner(), v.Dead())
	}
}

// P4.4: what is handed in, spare room too, is not changed, by a Commit that is done or one that errs.
func TestCommitChangesNothingHandedIn(t *testing.T) {
	v, d, m := fresh(t, 50)
	m = m.done(t, "laid", v, d, nil, blob("z", 1, 70), blob("b", 2, 70), blob("c", 3, 70))
	gone := []string{"z", "b", "c", "spare", "room"}
	data := append(dataOf(4, 70), "spare"...)
	put := []vault.Blob{{"y", data[:70]}, {"x", data[5:5]}, {"a", data[10:30]}, {"spare", nil}}
	look := func(what string) {
		t.Helper()
		if !slices.Equal(gone, []string{"z", "b", "c", "spare", "room"}) || !bytes.Equal(data, append(dataOf(4, 70), "spare"...)) {
			t.Errorf("%s: handed in, and changed: %q, % x", what, gone, data)
		}
		for k, name := range []string{"y", "x", "a", "spare"} {
			if put[k].Name != name || len(put[k].Data) != []int{70, 0, 20, 0}[k] {
				t.Errorf("%s: handed in, and changed: %v", what, put[k])
			}
		}
	}
	wantErr(t, "none", v.Commit(gone[:4], put[:3]...), api.ErrNone)
	look("ErrNone")
	wantErr(t, "twice", v.Commit(gone[:3], append(put[:3:3], put[0])...), api.ErrArg)
	look("ErrArg")
	wantErr(t, "long", v.Commit(gone[:3], append(put[:3:3], blob("l", 1, api.MaxBlob+1))...), api.ErrLong)
	look("ErrLong")
	wantErr(t, "full", v.Commit(gone[:3], append(put[:3:3], blob("l", 1, api.MaxBlob))...), api.ErrFull)
	look("ErrFull")
	(*vault.Vault)(nil).Commit(gone[:3], put[:3]...)
	look("a nil Vault")
	again := open(t, "cut short", d.Copy())
	wantErr(t, "done", v.Commit(gone[:2], put[:3]...), api.OK)
	look("OK")
	wantErr(t, "done", again.Commit(gone[:2], put[:3]...), api.OK)
	d.Fuse(2)
	wantErr(t, "cut short", v.Commit(gone[2:3], put[:3]...), api.ErrDead)
	look("ErrDead")
	wantErr(t, "dead", v.Commit(gone[2:3], put[:3]...), api.ErrDead)
	look("dead")
}

// P4.4: what is handed in, written over afterwards, changes nothing.
func TestCommitKeepsNothingHandedIn(t *testing.T) {
	v, d, m := fresh(t, 50)
	m = m.done(t, "laid", v, d, nil, blob("b", 1, 70), blob("c", 2, 70))
	gone, put := []string{"b"}, []vault.Blob{blob("a", 3, 100), blob("d", 4, 5), blob("c", 5, 128)}
	m, _ = m.commit(gone, put...)
	wantErr(t, "done", v.Commit(gone, put...), api.OK)
	gone[0] = "x"
	for k := range put {
		clear(put[k].Data)
		put[k] = vault.Blob{Name: "!", Data: []byte{1}}
	}
	m.wants(t, "written over", v)
	m.wantsDisk(t, "written over", d)
	m.done(t, "behind it", v, d, []string{"c"}, blob("e", 6, 9))
}

// P4.4: what is answered, written over afterwards, spare room too, changes nothing; nor is it changed later.
func TestAnswersAreNew(t *testing.T) {
	v, d, m := fresh(t, 50)
	m = m.done(t, "laid", v, d, nil, blob("a", 1, 100), blob("b", 2, 70), vault.Blob{Name: "c"})
	keptData, _ := v.Get("a")
	keptNames, keptOwner := v.Names(), v.Owner()
	for _, v := range []*vault.Vault{v, open(t, "opened", d)} {
		for range 2 {
			for _, name := range m.names() {
				data, _ := v.Get(name)
				_ = append(data, "more"...)
				clear(data[:cap(data)])
			}
			for _, list := range [][]string{v.Names(), v.Owner()} {
				_ = append(list, "more")
				clear(list[:cap(list)])
			}
			m.wants(t, "written over", v)
			m.wantsDisk(t, "written over", d)
		}
	}
	wantErr(t, "another", v.Commit([]string{"b"}, blob("a", 3, 100), blob("0", 4, 64)), api.OK)
	wantErr(t, "and one more", v.Commit([]string{"c"}, blob("d", 5, 100), blob("e", 6, 64)), api.OK)
	if !bytes.Equal(keptData, m.blobs["a"].data) || !slices.Equal(keptNames, m.names()) || !slices.Equal(keptOwner, m.owner()) {
		t.Error("an answer changed later:", keptData, keptNames, keptOwner)
	}
}

// P4.4, P0.6: vaults on disks of their own tell nothing of one another; what is told depends on the steps alone.
func TestVaultsAreApart(t *testing.T) {
	var vaults []*vault.Vault
	var disks []*sector.Disk
	m := newModel(50)
	for range 3 {
		v, d, _ := fresh(t, 50)
		vaults, disks = append(vaults, v), append(disks, d)
	}
	for k := range vaults {
		m.wants(t, k, vaults[k])
	}
	next := m
	for k := range vaults {
		next = m.done(t, k, vaults[k], disks[k], nil, blob("a", 1, 100), blob("b", 2, 70))
	}
	for k := range vaults {
		next.wants(t, k, vaults[k])
		for i := range 50 {
			a, _ := disks[0].Read(i)
			b, _ := disks[k].Read(i)
			if !bytes.Equal(a, b) {
				t.Errorf("sector %d: % x, and % x", i, a, b)
			}
		}
	}
}

// W1: a disk that became one of fewer sectors, under a vault, makes none of the calls panic.
func TestDiskThatBecameLess(t *testing.T) {
	for _, n := range []int{0, 1, slotsSize, slotsSize + 1} {
		v, d, m := fresh(t, 50)
		m.done(t, n, v, d, nil, blob("a", 1, 100), blob("b", 2, 70))
		if *d = (sector.Disk{}); n > 0 {
			*d = *newDisk(t, n)
		}
		if len(v.Owner()) != n || v.Free() != 0 || len(v.Names()) != 2 {
			t.Error(n, v.Owner(), v.Free(), v.Names())
		}
		wantNoGet(t, n, v, "b", api.ErrArg)
		wantErr(t, n, v.Commit(nil, blob("c", 3, 1)), api.ErrFull)
		v.Commit([]string{"a"})
	}
}
