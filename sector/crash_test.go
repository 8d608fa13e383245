package sector_test

import (
	"bytes"
	"math"
	"slices"
	"testing"

	"winnower/api"
	"winnower/sector"
)

// P2.2: the example.
func TestCrashExample(t *testing.T) {
	d := newDisk(t, 1)
	write(t, d, 0, 1)
	write(t, d, 0, 2)
	d.Crash(1)
	wantRead(t, d, 0, 1)
}

// ofThree is a disk whose sector 0 was flushed with 10, and written with 11, 12, 13 since.
func ofThree(t *testing.T) *sector.Disk {
	t.Helper()
	d := newDisk(t, 2)
	write(t, d, 0, 9, 9)
	write(t, d, 0, 10)
	flush(t, d)
	for v := byte(11); v <= 13; v++ {
		write(t, d, 0, v)
	}
	return d
}

// P2.2
func TestCrashByPick(t *testing.T) {
	greatest := math.MaxInt
	picks := map[int]byte{
		0: 10, 1: 11, 2: 12, 3: 13,
		4: 10, 5: 11, 6: 12, 7: 13, 8: 10, 401: 11,
		-1: 10, -2: 10, -3: 10, -4: 10, -5: 10, math.MinInt: 10, math.MinInt + 1: 10,
		greatest: byte(10 + greatest%4), greatest - 1: byte(10 + (greatest-1)%4),
	}
	for pick, want := range picks {
		d := ofThree(t)
		d.Crash(pick)
		if b, _ := d.Read(0); b[0] != want {
			t.Errorf("pick %d: %d, want %d", pick, b[0], want)
		}
		wantWaiting(t, d)
	}
}

// P2.2
func TestCrashWithoutPick(t *testing.T) {
	d := ofThree(t)
	d.Crash()
	wantRead(t, d, 0, 10)
	wantWaiting(t, d)
	d = ofThree(t)
	d.Crash(nil...)
	wantRead(t, d, 0, 10)
}

// P2.2: of a sector that was never flushed a pick of 0 is noughts.
func TestCrashToNoughts(t *testing.T) {
	d := newDisk(t, 2)
	write(t, d, 1, 1)
	write(t, d, 1, 2)
	d.Crash(0)
	wantRead(t, d, 1)
}

// P2.2: each write is a version, of the same bytes too.
func TestSameBytesAreVersions(t *testing.T) {
	for pick, want := range []byte{0, 5, 5, 0, 6, 0} {
		d := newDisk(t, 1)
		for _, v := range []byte{5, 5, 0, 6} {
			write(t, d, 0, v)
		}
		d.Crash(pick)
		wantRead(t, d, 0, want)
	}
}

// P2.2: the k-th sector that waits has the k-th pick, whatever was written first; a pick that is missing is 0, one too many none's.
func TestPicksGoBySectors(t *testing.T) {
	for _, c := range []struct {
		picks []int
		want  [5]byte
	}{
		{nil, [5]byte{100, 101, 102, 103, 104}},
		{[]int{1}, [5]byte{100, 11, 102, 103, 104}},
		{[]int{0, 1}, [5]byte{100, 101, 102, 13, 104}},
		{[]int{2, 2, 1}, [5]byte{100, 21, 102, 103, 14}},
		{[]int{-7, 3, 2}, [5]byte{100, 101, 102, 13, 104}},
		{[]int{1, 0, 1}, [5]byte{100, 11, 102, 103, 14}},
		{[]int{1, 1, 1, 1, 1, 1}, [5]byte{100, 11, 102, 13, 14}},
		{[]int{0, 0, 0, 1, 1, 1}, [5]byte{100, 101, 102, 103, 104}},
	} {
		d := newDisk(t, 5)
		for i := range 5 {
			write(t, d, i, byte(100+i))
		}
		flush(t, d)
		write(t, d, 4, 14)
		write(t, d, 1, 11)
		write(t, d, 3, 13)
		write(t, d, 1, 21)
		d.Crash(c.picks...)
		for i, want := range c.want {
			wantRead(t, d, i, want)
		}
		wantWaiting(t, d)
	}
}

// P2.2: what a crash left is what is there, and nothing takes it back.
func TestCrashSettles(t *testing.T) {
	d := ofThree(t)
	d.Crash(2)
	d.Crash(1)
	d.Crash(0)
	wantRead(t, d, 0, 12)
	write(t, d, 0, 14)
	wantWaiting(t, d, 0)
	d.Crash(0)
	wantRead(t, d, 0, 12)
	write(t, d, 0, 15)
	d.Crash(1)
	wantRead(t, d, 0, 15)
}

// P2.2: what was flushed is no version any more.
func TestFlushSettles(t *testing.T) {
	d := ofThree(t)
	flush(t, d)
	d.Crash(1)
	wantRead(t, d, 0, 13)
	write(t, d, 0, 14)
	d.Crash(2)
	wantRead(t, d, 0, 13)
	write(t, d, 0, 15)
	d.Crash(1)
	wantRead(t, d, 0, 15)
}

// P2.3: a version is whole, whatever lengths were written.
func TestVersionsAreWhole(t *testing.T) {
	rows := [][]byte{full(), bytes.Repeat([]byte{1}, 64), {2, 2}, nil, bytes.Repeat([]byte{3}, 63), {4}}
	for pick, want := range rows {
		d := newDisk(t, 1)
		for _, row := range rows[1:] {
			write(t, d, 0, row...)
		}
		d.Crash(pick)
		wantRead(t, d, 0, want...)
	}
}

// P2.2
func TestFuse(t *testing.T) {
	for n := range 5 {
		d := newDisk(t, 3)
		d.Fuse(n)
		for k := range n {
			if k%2 == 0 {
				write(t, d, 0, byte(k+1))
			} else {
				flush(t, d)
			}
		}
		before, _ := d.Read(0)
		waited := d.Waiting()
		for range 2 {
			wantErr(t, n, d.Write(0, 99), api.ErrDead)
			wantErr(t, n, d.Write(1, 99), api.ErrDead)
			wantErr(t, n, d.Flush(), api.ErrDead)
		}
		wantRead(t, d, 0, before...)
		wantRead(t, d, 1)
		wantWaiting(t, d, waited...)
	}
}

// P2.2
func TestLongFuse(t *testing.T) {
	const n = 70000
	d := newDisk(t, 1)
	d.Fuse(n)
	for k := range n / 2 {
		write(t, d, 0, byte(k))
		flush(t, d)
	}
	wantErr(t, "burnt", d.Flush(), api.ErrDead)
}

// P2.1: of a burnt fuse ErrDead is told first.
func TestBurntFirst(t *testing.T) {
	d := newDisk(t, 2)
	d.Fuse(0)
	for _, i := range []int{-1, 2, math.MinInt, math.MaxInt} {
		wantErr(t, i, d.Write(i), api.ErrDead)
		if b, e := d.Read(i); len(b) != 0 || e != api.ErrArg {
			t.Errorf("Read(%d): % x, %d", i, b, e)
		}
	}
	wantErr(t, "too many", d.Write(0, make([]byte, api.Sector+1)...), api.ErrDead)
	wantRead(t, d, 0)
}

// P2.2: what errs does not count.
func TestErringDoesNotCount(t *testing.T) {
	d := newDisk(t, 1)
	d.Fuse(2)
	for range 5 {
		wantErr(t, "no sector", d.Write(1, 1), api.ErrArg)
		wantErr(t, "too many", d.Write(0, make([]byte, api.Sector+1)...), api.ErrArg)
		d.Read(0)
		d.Read(1)
		d.Waiting()
		d.Len()
		d.Copy()
	}
	write(t, d, 0, 1)
	wantErr(t, "no sector", d.Write(-1, 1), api.ErrArg)
	write(t, d, 0, 2)
	wantErr(t, "burnt", d.Write(0, 3), api.ErrDead)
	wantErr(t, "burnt", d.Flush(), api.ErrDead)
	d.Fuse(1)
	flush(t, d)
	wantErr(t, "burnt again", d.Write(0, 3), api.ErrDead)
}

// P2.2: a Flush by which nothing changes is done, too.
func TestEmptyFlushCounts(t *testing.T) {
	d := newDisk(t, 1)
	d.Fuse(2)
	flush(t, d)
	flush(t, d)
	wantErr(t, "burnt", d.Flush(), api.ErrDead)
}

// P2.2: what a burnt disk did not do is no version.
func TestDeadWriteIsNoVersion(t *testing.T) {
	for pick, want := range []byte{7, 8, 7, 8} {
		d := newDisk(t, 2)
		write(t, d, 0, 7)
		flush(t, d)
		d.Fuse(1)
		write(t, d, 0, 8)
		d.Write(0, 9)
		d.Write(1, 9)
		d.Flush()
		wantWaiting(t, d, 0)
		d.Crash(pick, 1)
		wantRead(t, d, 0, want)
		wantRead(t, d, 1)
	}
}

// P2.1, P2.2: nor is what erred otherwise.
func TestWrongWriteIsNoVersion(t *testing.T) {
	for pick, want := range []byte{0, 8, 0} {
		d := newDisk(t, 1)
		d.Write(0, make([]byte, api.Sector+1)...)
		write(t, d, 0, 8)
		d.Write(0, make([]byte, api.Sector+1)...)
		d.Crash(pick)
		wantRead(t, d, 0, want)
	}
}

// P2.2
func TestNoFuse(t *testing.T) {
	for _, n := range []int{-1, -2, math.MinInt} {
		d := newDisk(t, 1)
		d.Fuse(n)
		for k := range 300 {
			write(t, d, 0, byte(k))
			flush(t, d)
		}
		d.Fuse(1)
		flush(t, d)
		d.Fuse(n)
		write(t, d, 0, 1)
		write(t, d, 0, 2)
		d.Fuse(0)
		wantErr(t, "burnt", d.Flush(), api.ErrDead)
		d.Fuse(n)
		flush(t, d)
	}
}

// P2.2: the last fuse is the one that counts.
func TestFuseAnew(t *testing.T) {
	d := newDisk(t, 1)
	d.Fuse(math.MaxInt)
	write(t, d, 0, 1)
	d.Fuse(1)
	write(t, d, 0, 2)
	wantErr(t, "burnt", d.Write(0, 3), api.ErrDead)
	d.Fuse(2)
	write(t, d, 0, 4)
	d.Fuse(2)
	write(t, d, 0, 5)
	write(t, d, 0, 6)
	wantErr(t, "burnt", d.Write(0, 7), api.ErrDead)
	d.Fuse(math.MaxInt)
	flush(t, d)
	wantRead(t, d, 0, 6)
}

// P2.2
func TestNoFuseBehindCrash(t *testing.T) {
	for n := range 3 {
		d := newDisk(t, 1)
		d.Fuse(n)
		d.Crash()
		for range 5 {
			write(t, d, 0, 1)
			flush(t, d)
		}
	}
	d := newDisk(t, 1)
	d.Fuse(1)
	write(t, d, 0, 1)
	wantErr(t, "burnt", d.Flush(), api.ErrDead)
	d.Crash(1)
	flush(t, d)
	write(t, d, 0, 2)
	wantRead(t, d, 0, 2)
}

// P2.3
func TestCrashLeavesPicks(t *testing.T) {
	d := newDisk(t, 3)
	for i := range 3 {
		write(t, d, i, 1)
	}
	room := []int{-5, 1, 700, 77, 78}
	d.Crash(room[:2]...)
	if !slices.Equal(room, []int{-5, 1, 700, 77, 78}) {
		t.Error("what was handed in became", room)
	}
	wantRead(t, d, 0)
	wantRead(t, d, 1, 1)
	wantRead(t, d, 2)
}

// P2.2
func TestCopyHasVersions(t *testing.T) {
	for pick := range 5 {
		d := ofThree(t)
		write(t, d, 1, 1)
		c := d.Copy()
		if c.Len() != 2 {
			t.Error("a copy is of", c.Len())
		}
		wantRead(t, c, 0, 13)
		wantRead(t, c, 1, 1)
		wantWaiting(t, c, 0, 1)
		c.Crash(pick, 0)
		wantRead(t, c, 0, byte(10+pick%4))
		wantRead(t, c, 1)
		wantWaiting(t, c)
		wantRead(t, d, 0, 13)
		wantWaiting(t, d, 0, 1)
		d.Crash(3-pick, 1)
		wantRead(t, d, 0, byte(10+max(3-pick, 0)))
		wantRead(t, d, 1, 1)
		wantRead(t, c, 0, byte(10+pick%4))
		wantRead(t, c, 1)
	}
}

// P2.2, P2.3: what is written on the one is not seen on the other, at any number of versions.
func TestCopyIsAnother(t *testing.T) {
	for n := range 10 {
		d := newDisk(t, 1)
		for k := range n {
			write(t, d, 0, byte(k+1))
		}
		c := d.Copy()
		write(t, d, 0, 50)
		write(t, c, 0, 60)
		write(t, d, 0, 51)
		wantRead(t, d, 0, 51)
		wantRead(t, c, 0, 60)
		again := d.Copy()
		d.Crash(n + 1)
		c.Crash(n + 1)
		wantRead(t, d, 0, 50)
		wantRead(t, c, 0, 60)
		again.Crash(n + 2)
		wantRead(t, again, 0, 51)
		write(t, c, 0, 61)
		flush(t, c)
		wantWaiting(t, d)
		wantRead(t, d, 0, 50)
		write(t, d, 0, 52)
		wantWaiting(t, c)
		wantRead(t, c, 0, 61)
	}
}

// P2.2
func TestCopyHasNoFuse(t *testing.T) {
	for n := range 3 {
		d := newDisk(t, 1)
		d.Fuse(n)
		c := d.Copy()
		for range 5 {
			write(t, c, 0, 1)
			flush(t, c)
		}
		for range n {
			write(t, d, 0, 2)
		}
		wantErr(t, "burnt", d.Write(0, 3), api.ErrDead)
		late := d.Copy()
		flush(t, late)
		write(t, late, 0, 4)
		late.Fuse(0)
		c.Fuse(0)
		d.Fuse(1)
		write(t, d, 0, 5)
		wantErr(t, "the copy's fuse", late.Flush(), api.ErrDead)
		wantErr(t, "the copy's fuse", c.Flush(), api.ErrDead)
	}
}

// P2.2: the copy of a disk that New just made.
func TestCopyOfNoughts(t *testing.T) {
	d := newDisk(t, api.MaxDisk)
	c := d.Copy()
	write(t, c, 5, 5)
	flush(t, c)
	write(t, d, 6, 6)
	if c.Len() != api.MaxDisk {
		t.Error("a copy is of", c.Len())
	}
	wantRead(t, d, 5)
	wantRead(t, c, 6)
	wantRead(t, c, 5, 5)
}
