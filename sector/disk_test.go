package sector_test

import (
	"bytes"
	"math"
	"slices"
	"testing"

	"winnower/api"
	"winnower/sector"
)

func newDisk(t *testing.T, n int) *sector.Disk {
	t.Helper()
	d, e := sector.New(n)
	if e != api.OK || d == nil {
		t.Fatalf("New(%d): %v, %d", n, d, e)
	}
	return d
}

func wantErr(t *testing.T, what any, got, want api.Errno) {
	t.Helper()
	if got != want {
		t.Errorf("%v: error %d, want %d", what, got, want)
	}
}

// full is bytes, and noughts behind them, as many as a sector has.
func full(b ...byte) []byte {
	return append(bytes.Clone(b), make([]byte, api.Sector-len(b))...)
}

func wantRead(t *testing.T, d *sector.Disk, i int, want ...byte) {
	t.Helper()
	got, e := d.Read(i)
	if e != api.OK || !bytes.Equal(got, full(want...)) {
		t.Errorf("sector %d: % x (error %d), want % x", i, got, e, want)
	}
}

func wantWaiting(t *testing.T, d *sector.Disk, want ...int) {
	t.Helper()
	if got := d.Waiting(); !slices.Equal(got, want) {
		t.Errorf("waiting: %v, want %v", got, want)
	}
}

func write(t *testing.T, d *sector.Disk, i int, b ...byte) {
	t.Helper()
	wantErr(t, "Write", d.Write(i, b...), api.OK)
}

func flush(t *testing.T, d *sector.Disk) {
	t.Helper()
	wantErr(t, "Flush", d.Flush(), api.OK)
}

// P2.1
func TestNewIsNoughts(t *testing.T) {
	for _, n := range []int{1, 2, 3, 100, api.MaxDisk - 1, api.MaxDisk} {
		d := newDisk(t, n)
		if d.Len() != n {
			t.Errorf("of %d sectors: %d", n, d.Len())
		}
		for i := range n {
			wantRead(t, d, i)
		}
		wantWaiting(t, d)
	}
}

// P2.1
func TestNewOutOfBounds(t *testing.T) {
	for _, n := range []int{0, -1, -api.MaxDisk, math.MinInt, api.MaxDisk + 1, 2 * api.MaxDisk, math.MaxInt} {
		if d, e := sector.New(n); d != nil || e != api.ErrArg {
			t.Errorf("New(%d): %v, %d", n, d, e)
		}
	}
}

// P2.1
func TestNoSuchSector(t *testing.T) {
	for _, n := range []int{1, 3, api.MaxDisk} {
		d := newDisk(t, n)
		for _, i := range []int{-1, -2, n, n + 1, math.MinInt, math.MaxInt} {
			if b, e := d.Read(i); len(b) != 0 || e != api.ErrArg {
				t.Errorf("Read(%d) of %d: % x, %d", i, n, b, e)
			}
			wantErr(t, i, d.Write(i), api.ErrArg)
			wantErr(t, i, d.Write(i, 1, 2), api.ErrArg)
		}
		wantWaiting(t, d)
		for i := range n {
			wantRead(t, d, i)
		}
	}
}

// P2.1
func TestWriteLaysBytesAndNoughts(t *testing.T) {
	row := bytes.Repeat([]byte{0xe5}, api.Sector)
	for n := range api.Sector + 1 {
		d := newDisk(t, 3)
		write(t, d, 1, row...)
		write(t, d, 1, row[:n]...)
		wantRead(t, d, 0)
		wantRead(t, d, 1, row[:n]...)
		wantRead(t, d, 2)
		flush(t, d)
		wantRead(t, d, 1, row[:n]...)
	}
}

// P2.1: any byte may be written, at any place.
func TestWriteLaysAllBytes(t *testing.T) {
	d := newDisk(t, 4)
	for i := range 4 {
		var row []byte
		for k := range api.Sector {
			row = append(row, byte(i*api.Sector+k))
		}
		write(t, d, i, row...)
		wantRead(t, d, i, row...)
	}
}

// P2.1
func TestWriteOfTooMany(t *testing.T) {
	for _, n := range []int{api.Sector + 1, api.Sector + 2, 2 * api.Sector, 70000} {
		d := newDisk(t, 2)
		write(t, d, 0, 1)
		wantErr(t, n, d.Write(0, make([]byte, n)...), api.ErrArg)
		wantErr(t, n, d.Write(1, make([]byte, n)...), api.ErrArg)
		wantRead(t, d, 0, 1)
		wantWaiting(t, d, 0)
	}
}

// P2.1: of the first and of the last sector, too.
func TestReadTellsLastWrite(t *testing.T) {
	d := newDisk(t, api.MaxDisk)
	for _, i := range []int{0, 1, api.MaxDisk - 1} {
		write(t, d, i, 1, 2, 3)
		wantRead(t, d, i, 1, 2, 3)
		write(t, d, i, 4)
		wantRead(t, d, i, 4)
		flush(t, d)
		wantRead(t, d, i, 4)
		write(t, d, i)
		wantRead(t, d, i)
		write(t, d, i, 5, 6)
		wantRead(t, d, i, 5, 6)
	}
}

// P2.1
func TestWaitingRises(t *testing.T) {
	d := newDisk(t, 10)
	for _, i := range []int{7, 0, 9, 3, 7, 0} {
		write(t, d, i, byte(i))
	}
	wantWaiting(t, d, 0, 3, 7, 9)
	wantWaiting(t, d, 0, 3, 7, 9)
	flush(t, d)
	wantWaiting(t, d)
	flush(t, d)
	wantWaiting(t, d)
	write(t, d, 3)
	wantWaiting(t, d, 3)
}

// P2.1: what is written as it was waits, too.
func TestWriteOfTheSameWaits(t *testing.T) {
	d := newDisk(t, 2)
	write(t, d, 1)
	wantWaiting(t, d, 1)
	flush(t, d)
	write(t, d, 0, 0, 0)
	wantWaiting(t, d, 0)
}

// P2.1: all sectors may wait.
func TestAllWait(t *testing.T) {
	d := newDisk(t, api.MaxDisk)
	var all []int
	for i := range api.MaxDisk {
		write(t, d, i, byte(i), byte(i>>8))
		all = append(all, i)
	}
	wantWaiting(t, d, all...)
	flush(t, d)
	wantWaiting(t, d)
	d.Crash()
	for i := range api.MaxDisk {
		wantRead(t, d, i, byte(i), byte(i>>8))
	}
}

// P2.3
func TestDiskKeepsNothingHandedIn(t *testing.T) {
	d := newDisk(t, 2)
	room := append(bytes.Repeat([]byte{7}, 10), "spare"...)
	write(t, d, 0, room[:10]...)
	whole := bytes.Repeat([]byte{8}, api.Sector)
	write(t, d, 1, whole...)
	if string(room) != "\a\a\a\a\a\a\a\a\a\aspare" || !bytes.Equal(whole, bytes.Repeat([]byte{8}, api.Sector)) {
		t.Errorf("what was handed in became %q, %q", room, whole)
	}
	clear(room)
	clear(whole)
	for range 2 {
		wantRead(t, d, 0, bytes.Repeat([]byte{7}, 10)...)
		wantRead(t, d, 1, bytes.Repeat([]byte{8}, api.Sector)...)
		flush(t, d)
	}
	if !bytes.Equal(room, make([]byte, 15)) {
		t.Errorf("what was handed in became %q later", room)
	}
}

// P2.3: what was handed in wrongly isn't changed either.
func TestErringWriteChangesNothingHandedIn(t *testing.T) {
	d := newDisk(t, 1)
	row := bytes.Repeat([]byte{7}, api.Sector+1)
	d.Write(0, row...)
	d.Write(1, row[:5]...)
	if !bytes.Equal(row, bytes.Repeat([]byte{7}, api.Sector+1)) {
		t.Errorf("what was handed in became %q", row)
	}
}

// P2.3
func TestReadIsNew(t *testing.T) {
	for _, flushed := range []int{0, 1} {
		d := newDisk(t, 2)
		write(t, d, 0, 1, 2, 3)
		write(t, d, 1, 4)
		if flushed == 1 {
			flush(t, d)
		}
		first, _ := d.Read(0)
		second, _ := d.Read(0)
		_ = append(first, 98, 98)
		_ = append(first[:2], 97, 97)
		first[0] = 99
		if !bytes.Equal(second, full(1, 2, 3)) {
			t.Errorf("another answer became % x", second)
		}
		wantRead(t, d, 0, 1, 2, 3)
		wantRead(t, d, 1, 4)
	}
}

// P2.3: of a sector that was never written, too.
func TestReadOfNoughtsIsNew(t *testing.T) {
	d := newDisk(t, 2)
	b, _ := d.Read(0)
	for k := range b {
		b[k] = 9
	}
	wantRead(t, d, 0)
	wantRead(t, d, 1)
}

// P2.3
func TestReadStays(t *testing.T) {
	d := newDisk(t, 1)
	noughts, _ := d.Read(0)
	write(t, d, 0, 1)
	one, _ := d.Read(0)
	flush(t, d)
	flushed, _ := d.Read(0)
	write(t, d, 0, 2)
	d.Crash(1)
	write(t, d, 0, 3)
	d.Crash()
	if !bytes.Equal(noughts, full()) || !bytes.Equal(one, full(1)) || !bytes.Equal(flushed, full(1)) {
		t.Errorf("answers became % x, % x, % x", noughts, one, flushed)
	}
}

// P2.3
func TestWaitingIsNew(t *testing.T) {
	d := newDisk(t, 9)
	for i := range 5 {
		write(t, d, 2*i, 1)
	}
	first, second := d.Waiting(), d.Waiting()
	_ = append(first, 77)
	clear(first)
	if want := []int{0, 2, 4, 6, 8}; !slices.Equal(second, want) {
		t.Errorf("another answer became %v", second)
	}
	wantWaiting(t, d, 0, 2, 4, 6, 8)
	flush(t, d)
	write(t, d, 1)
	if want := []int{0, 2, 4, 6, 8}; !slices.Equal(second, want) {
		t.Errorf("an answer became %v later", second)
	}
}

// P2.3
func TestNilDisk(t *testing.T) {
	var d *sector.Disk
	for _, i := range []int{0, -1, 1, math.MaxInt} {
		wantErr(t, "Write", d.Write(i), api.ErrArg)
		wantErr(t, "Write", d.Write(i, make([]byte, api.Sector+1)...), api.ErrArg)
		if b, e := d.Read(i); len(b) != 0 || e != api.ErrArg {
			t.Errorf("Read(%d): % x, %d", i, b, e)
		}
		d.Fuse(i)
		d.Crash(i, 1, -1)
		wantErr(t, "Flush", d.Flush(), api.ErrArg)
	}
	d.Crash()
	if d.Len() != 0 || len(d.Waiting()) != 0 || d.Copy() != nil {
		t.Error("a nil Disk is of", d.Len(), d.Waiting(), d.Copy())
	}
}

// W1: a Disk that New did not make has no sector.
func TestDiskOfNoSector(t *testing.T) {
	var d sector.Disk
	wantErr(t, "Write", d.Write(0), api.ErrArg)
	if b, e := d.Read(0); len(b) != 0 || e != api.ErrArg {
		t.Errorf("Read: % x, %d", b, e)
	}
	d.Crash(1)
	flush(t, &d)
	if d.Len() != 0 || len(d.Waiting()) != 0 || d.Copy().Len() != 0 {
		t.Error("a Disk of no sector is of", d.Len(), d.Waiting())
	}
	d.Fuse(0)
	wantErr(t, "Write", d.Write(0), api.ErrDead)
	wantErr(t, "Flush", d.Flush(), api.ErrDead)
}
