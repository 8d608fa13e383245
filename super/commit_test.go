package super_test

import (
	"bytes"
	"slices"
	"testing"

	"winnower/api"
	"winnower/sector"
	"winnower/super"
)

func format(t *testing.T, d *sector.Disk, image []byte) *super.Super {
	t.Helper()
	s, e := super.Format(d, image)
	if e != api.OK || s == nil {
		t.Fatalf("Format: %v, %d", s, e)
	}
	return s
}

func wantWaiting(t *testing.T, what any, d *sector.Disk, from, to int) {
	t.Helper()
	var want []int
	for i := from; i < to; i++ {
		want = append(want, i)
	}
	if got := d.Waiting(); !slices.Equal(got, want) {
		t.Errorf("%v: waiting %v, want %v", what, got, want)
	}
}

// The example: P3.2, P3.3.
func TestExample(t *testing.T) {
	d := newDisk(t, slotsSize)
	s := format(t, d, []byte("a"))
	wantErr(t, "Commit", s.Commit([]byte("b")), api.OK)
	wantOpen(t, "Open", d, []byte("b"), 2)
}

// P3.2
func TestFormatOfTooFew(t *testing.T) {
	for _, size := range []int{0, api.MaxImage, api.MaxImage + 1} {
		if s, e := super.Format(nil, make([]byte, size)); s != nil || e != api.ErrArg {
			t.Errorf("nil: %v, %d", s, e)
		}
		for _, n := range []int{1, 2, api.SlotSize, slotsSize - 1} {
			d := newDisk(t, n)
			if s, e := super.Format(d, make([]byte, size)); s != nil || e != api.ErrArg {
				t.Errorf("%d: %v, %d", n, s, e)
			}
			wantWaiting(t, n, d, 0, 0)
		}
	}
}

// P3.2: nothing is written, the fuse is as it was.
func TestFormatOfTooMany(t *testing.T) {
	for _, size := range []int{api.MaxImage + 1, api.MaxImage + 2, 1 << 16, 1 << 20} {
		d := diskOf(t, slotOf(3, []byte{1}), slotOf(4, []byte{2}))
		d.Fuse(0)
		if s, e := super.Format(d, make([]byte, size)); s != nil || e != api.ErrLong {
			t.Errorf("%d bytes: %v, %d", size, s, e)
		}
		wantWaiting(t, size, d, 0, 0)
		wantOpen(t, size, d, []byte{2}, 4)
	}
}

// P3.2
func TestFormatLaysFirstSlot(t *testing.T) {
	for _, n := range []int{slotsSize, slotsSize + 1, api.MaxDisk} {
		for _, size := range sizes() {
			d, image := newDisk(t, n), imageOf(1, size)
			wantTold(t, size, format(t, d, image), image, 1)
			wantSlot(t, size, d, 0, slotOf(1, image))
			wantSlot(t, size, d, 1, make([][]byte, api.SlotSize))
			wantWaiting(t, size, d, 0, 0)
			d.Crash()
			wantOpen(t, size, d, image, 1)
		}
	}
}

// P3.2: whatever both slots hold; what stands behind them stays.
func TestFormatOverOthers(t *testing.T) {
	a, b, c := imageOf(1, 100), imageOf(2, 800), imageOf(3, 50)
	none := bearing(maxNumber, 0xff, 0xff)
	for i, laid := range [][2][][]byte{
		{slotOf(1, a), slotOf(2, b)},
		{slotOf(3, a), slotOf(2, b)},
		{slotOf(1, a), slotOf(1, b)},
		{slotOf(maxNumber, a), slotOf(maxNumber-1, b)},
		{slotOf(maxNumber-1, a), slotOf(maxNumber, b)},
		{slotOf(5, a), nil},
		{nil, slotOf(5, b)},
		{none, none},
	} {
		d := newDisk(t, slotsSize+1)
		for slot, rows := range laid {
			for k, row := range rows {
				d.Write(slot*api.SlotSize+k, row...)
			}
		}
		d.Write(slotsSize, 77)
		s := format(t, d, c)
		wantTold(t, i, s, c, 1)
		wantSlot(t, i, d, 0, slotOf(1, c))
		wantSlot(t, i, d, 1, make([][]byte, api.SlotSize))
		wantSlot(t, i, d, 2, [][]byte{{77}})
		wantOpen(t, i, d, c, 1)
		wantErr(t, i, s.Commit(b), api.OK)
		wantOpen(t, i, d, b, 2)
	}
}

// P3.2: the second slot is cleared ahead, a Flush; the first one is laid sector by sector, a Flush; what the fuse lets through of it.
func TestFormatByTheFuse(t *testing.T) {
	a, b, c := imageOf(1, api.MaxImage), imageOf(2, api.MaxImage), imageOf(3, api.MaxImage)
	for n := range 2*(api.SlotSize+1) + 1 {
		d := diskOf(t, slotOf(8, a), slotOf(9, b))
		d.Fuse(n)
		s, e := super.Format(d, c)
		cleared, laid := min(n, api.SlotSize), max(0, min(n-api.SlotSize-1, api.SlotSize))
		first := append(slotOf(1, c)[:laid:laid], slotOf(8, a)[laid:]...)
		second := append(make([][]byte, cleared), slotOf(9, b)[cleared:]...)
		wantSlot(t, n, d, 0, first)
		wantSlot(t, n, d, 1, second)
		switch {
		case n <= api.SlotSize:
			wantWaiting(t, n, d, api.SlotSize, api.SlotSize+cleared)
		case n < 2*(api.SlotSize+1):
			wantWaiting(t, n, d, 0, laid)
		default:
			wantWaiting(t, n, d, 0, 0)
			wantErr(t, n, e, api.OK)
			wantTold(t, n, s, c, 1)
			wantErr(t, "the fuse", d.Flush(), api.ErrDead)
			continue
		}
		if s != nil || e != api.ErrDead {
			t.Errorf("a fuse of %d: %v, %d", n, s, e)
		}
	}
}

// P3.2: a crash amid a Format over two whole slots leaves what one of them told, the new image, or none: never another.
func TestCrashAmidFormat(t *testing.T) {
	a, b, c := imageOf(1, api.MaxImage), imageOf(2, api.MaxImage), imageOf(3, api.MaxImage)
	for n := range 2 * (api.SlotSize + 1) {
		for seed := range 20 {
			d := diskOf(t, slotOf(8, a), slotOf(9, b))
			d.Fuse(n)
			super.Format(d, c)
			d.Crash(picksOf(seed)...)
			s, e := super.Open(d)
			if e == api.OK && !bytes.Equal(s.Image(), a) && !bytes.Equal(s.Image(), b) && !bytes.Equal(s.Image(), c) || e != api.OK && e != api.ErrForm {
				t.Errorf("a fuse of %d: %d, % x", n, e, s.Image())
			}
			d.Fuse(-1)
			wantTold(t, n, format(t, d, c), c, 1)
			wantOpen(t, n, d, c, 1)
		}
	}
}

// P3.3: each goes into the slot that does not hold the image, under the next number.
func TestCommitTakesTurns(t *testing.T) {
	d, held := newDisk(t, slotsSize+3), imageOf(1, 10)
	s := format(t, d, held)
	for n := 2; n < 40; n++ {
		image := imageOf(n, n*67%(api.MaxImage+1))
		wantErr(t, n, s.Commit(image), api.OK)
		wantTold(t, n, s, image, n)
		wantWaiting(t, n, d, 0, 0)
		wantSlot(t, n, d, (n-1)%2, slotOf(uint64(n), image))
		wantSlot(t, n, d, n%2, slotOf(uint64(n-1), held))
		wantOpen(t, n, d, image, n)
		held = image
	}
	if s.Dead() {
		t.Error("dead")
	}
}

// P3.3: what Open found tells into which slot the first Commit goes, and under which number.
func TestCommitBehindOpen(t *testing.T) {
	a, b, c := imageOf(1, 100), imageOf(2, 100), imageOf(3, 100)
	for i, at := range []struct {
		laid  [2][][]byte
		slot  int
		after int
	}{
		{[2][][]byte{slotOf(4, a), nil}, 1, 5},
		{[2][][]byte{nil, slotOf(4, a)}, 0, 5},
		{[2][][]byte{slotOf(4, a), slotOf(3, b)}, 1, 5},
		{[2][][]byte{slotOf(4, a), slotOf(5, b)}, 0, 6},
		{[2][][]byte{slotOf(4, a), slotOf(4, b)}, 1, 5},
		{[2][][]byte{slotOf(4, a), with(slotOf(9, b), 2, nil)}, 1, 10},
		{[2][][]byte{with(slotOf(9, b), 2, nil), slotOf(4, a)}, 0, 10},
		{[2][][]byte{slotOf(maxNumber-1, a), nil}, 1, maxNumber},
	} {
		d := diskOf(t, at.laid[0], at.laid[1])
		s, _ := super.Open(d)
		wantErr(t, i, s.Commit(c), api.OK)
		wantTold(t, i, s, c, at.after)
		wantSlot(t, i, d, at.slot, slotOf(uint64(at.after), c))
		wantSlot(t, i, d, 1-at.slot, at.laid[1-at.slot])
		wantOpen(t, i, d, c, at.after)
		if at.after < maxNumber {
			wantErr(t, i, s.Commit(a), api.OK)
			wantSlot(t, i, d, 1-at.slot, slotOf(uint64(at.after+1), a))
		}
	}
}

// P3.3
func TestCommitOfAnySize(t *testing.T) {
	for _, size := range sizes() {
		d := newDisk(t, slotsSize)
		s := format(t, d, imageOf(1, api.MaxImage))
		wantErr(t, size, s.Commit(imageOf(2, size)), api.OK)
		wantTold(t, size, s, imageOf(2, size), 2)
		wantOpen(t, size, d, imageOf(2, size), 2)
	}
	s := format(t, newDisk(t, slotsSize), []byte{1})
	wantErr(t, "nil", s.Commit(nil), api.OK)
	wantTold(t, "nil", s, nil, 2)
}

// P3.3: ErrLong changes nothing, takes nothing off the fuse, and does not make it dead.
func TestCommitOfTooMany(t *testing.T) {
	a, b := imageOf(1, 100), imageOf(2, api.MaxImage)
	for _, size := range []int{api.MaxImage + 1, api.MaxImage + 2, 1 << 16, 1 << 20} {
		d := newDisk(t, slotsSize)
		s := format(t, d, a)
		d.Fuse(api.SlotSize + 1)
		for range 3 {
			wantErr(t, size, s.Commit(make([]byte, size)), api.ErrLong)
		}
		wantTold(t, size, s, a, 1)
		wantWaiting(t, size, d, 0, 0)
		if s.Dead() {
			t.Error("dead by ErrLong")
		}
		wantErr(t, size, s.Commit(b), api.OK)
		wantTold(t, size, s, b, 2)
	}
}

// P3.3
func TestCommitAtGreatestNumber(t *testing.T) {
	a, b, c := imageOf(1, 100), imageOf(2, 50), imageOf(3, 60)
	d := diskOf(t, slotOf(maxNumber-2, a))
	s := wantOpen(t, "Open", d, a, maxNumber-2)
	wantErr(t, "the last but one", s.Commit(b), api.OK)
	wantErr(t, "the last", s.Commit(c), api.OK)
	for _, again := range []*super.Super{s, wantOpen(t, "Open", d, c, maxNumber)} {
		for _, image := range [][]byte{nil, a, make([]byte, api.MaxImage+1)} {
			wantErr(t, "behind the last", again.Commit(image), api.ErrLong)
		}
		wantTold(t, "behind the last", again, c, maxNumber)
		if again.Dead() {
			t.Error("dead by ErrLong")
		}
	}
	wantSlot(t, "behind the last", d, 0, slotOf(maxNumber, c))
	wantSlot(t, "behind the last", d, 1, slotOf(maxNumber-1, b))
	wantWaiting(t, "behind the last", d, 0, 0)
}

// P3.3: the fuse burns at each of the writes, and at the flush.
func TestCommitByTheFuse(t *testing.T) {
	a, b, c := imageOf(1, 100), imageOf(2, api.MaxImage), imageOf(3, api.MaxImage)
	for turns := range 3 {
		for n := range api.SlotSize + 1 {
			d := newDisk(t, slotsSize)
			s := format(t, d, a)
			for k := range turns {
				wantErr(t, k, s.Commit(a), api.OK)
			}
			slot := 1 - turns%2
			held, _ := d.Read(slot * api.SlotSize)
			d.Fuse(n)
			wantErr(t, n, s.Commit(b), api.ErrDead)
			wantTold(t, n, s, a, turns+1)
			if !s.Dead() {
				t.Errorf("a fuse of %d: not dead", n)
			}
			wantWaiting(t, n, d, slot*api.SlotSize, slot*api.SlotSize+n)
			wantSlot(t, n, d, slot, slotOf(uint64(turns+2), b)[:n])
			if n == 0 {
				wantSlot(t, n, d, slot, [][]byte{held})
			}
			wantDead(t, n, s, d, a, turns+1)
			d.Fuse(-1)
			wantDead(t, n, s, d, a, turns+1)
			d.Crash()
			wantDead(t, n, s, d, a, turns+1)
			again := wantOpen(t, n, d, a, turns+1)
			wantErr(t, n, again.Commit(c), api.OK)
			wantOpen(t, n, d, c, turns+2)
		}
	}
}

// wantDead looks whether a dead Super tells what it told, and writes nothing.
func wantDead(t *testing.T, what any, s *super.Super, d *sector.Disk, image []byte, number int) {
	t.Helper()
	waiting := len(d.Waiting())
	for _, more := range [][]byte{nil, {1}, make([]byte, api.MaxImage), make([]byte, api.MaxImage+1)} {
		wantErr(t, what, s.Commit(more), api.ErrDead)
	}
	wantTold(t, what, s, image, number)
	if !s.Dead() || len(d.Waiting()) != waiting {
		t.Errorf("%v: dead %v, %d sectors wait, want %d", what, s.Dead(), len(d.Waiting()), waiting)
	}
}

// P3.3: dead goes ahead of the number 2^50, too.
func TestDeadAtGreatestNumber(t *testing.T) {
	d := diskOf(t, slotOf(maxNumber-1, nil))
	s, _ := super.Open(d)
	d.Fuse(3)
	wantErr(t, "cut short", s.Commit(nil), api.ErrDead)
	wantDead(t, "cut short", s, d, nil, maxNumber-1)
	again := wantOpen(t, "behind it", d, nil, maxNumber)
	wantErr(t, "behind it", again.Commit(nil), api.ErrLong)
}

// P3.3: a fuse that is long enough does not stop it.
func TestCommitEndsWithTheFuse(t *testing.T) {
	d := newDisk(t, slotsSize)
	s := format(t, d, []byte("a"))
	d.Fuse(api.SlotSize + 1)
	wantErr(t, "just enough", s.Commit([]byte("b")), api.OK)
	wantTold(t, "just enough", s, []byte("b"), 2)
	wantErr(t, "no more", s.Commit([]byte("c")), api.ErrDead)
	d.Crash()
	wantOpen(t, "behind it", d, []byte("b"), 2)
}

// P3.3, W9: a crash meanwhile takes nothing of what a Commit flushed, and a Super that is not dead goes on.
func TestCrashMeanwhile(t *testing.T) {
	d := newDisk(t, slotsSize)
	s := format(t, d, imageOf(1, 9))
	for n := 2; n < 10; n++ {
		d.Crash()
		wantErr(t, n, s.Commit(imageOf(n, 9)), api.OK)
		d.Crash(1, 0, 1)
		wantTold(t, n, s, imageOf(n, 9), n)
		wantOpen(t, n, d, imageOf(n, 9), n)
	}
}

// P3.3: the image is the Super's, whatever others write on the disk.
func TestImageIsKept(t *testing.T) {
	d := newDisk(t, slotsSize)
	s := format(t, d, imageOf(1, 9))
	for i := range slotsSize {
		d.Write(i, 1, 2, 3)
	}
	wantTold(t, "written over", s, imageOf(1, 9), 1)
	wantErr(t, "written over", s.Commit(imageOf(2, 9)), api.OK)
	wantOpen(t, "written over", d, imageOf(2, 9), 2)
}

// P3.4
func TestNilSuper(t *testing.T) {
	var s *super.Super
	for _, size := range []int{0, 1, api.MaxImage, api.MaxImage + 1} {
		wantErr(t, size, s.Commit(make([]byte, size)), api.ErrArg)
	}
	if len(s.Image()) != 0 || s.Number() != 0 || !s.Dead() {
		t.Error(s.Image(), s.Number(), s.Dead())
	}
}

// W1: a Super that neither Format nor Open made has no disk.
func TestSuperOfNoDisk(t *testing.T) {
	var s super.Super
	wantTold(t, "no disk", &s, nil, 0)
	if e := s.Commit([]byte{1}); e == api.OK {
		t.Error("Commit on no disk is done")
	}
	wantTold(t, "no disk", &s, nil, 0)
}

// P3.4: what is handed in, spare room too, is neither changed nor kept.
func TestKeepsNothingHandedIn(t *testing.T) {
	for _, size := range []int{0, 5, api.MaxImage} {
		d := newDisk(t, slotsSize)
		room := append(imageOf(1, size), "spare"...)
		s := format(t, d, room[:size])
		if !bytes.Equal(room, append(imageOf(1, size), "spare"...)) {
			t.Errorf("Format: what was handed in became % x", room)
		}
		clear(room)
		wantTold(t, "Format", s, imageOf(1, size), 1)
		wantOpen(t, "Format", d, imageOf(1, size), 1)
		room = append(imageOf(2, size), "spare"...)
		wantErr(t, size, s.Commit(room[:size]), api.OK)
		if !bytes.Equal(room, append(imageOf(2, size), "spare"...)) {
			t.Errorf("Commit: what was handed in became % x", room)
		}
		clear(room)
		wantTold(t, "Commit", s, imageOf(2, size), 2)
		wantOpen(t, "Commit", d, imageOf(2, size), 2)
		d.Fuse(3)
		room = append(imageOf(3, size), "spare"...)
		wantErr(t, size, s.Commit(room[:size]), api.ErrDead)
		if !bytes.Equal(room, append(imageOf(3, size), "spare"...)) {
			t.Errorf("a Commit cut short: what was handed in became % x", room)
		}
	}
}

// P3.4
func TestErringCallsChangeNothingHandedIn(t *testing.T) {
	d := newDisk(t, slotsSize)
	s := format(t, d, nil)
	image := imageOf(1, api.MaxImage+1)
	super.Format(d, image)
	super.Format(nil, image)
	s.Commit(image)
	(*super.Super)(nil).Commit(image)
	super.Pack(1, image)
	super.Pack(0, image[:5])
	if !bytes.Equal(image, imageOf(1, api.MaxImage+1)) {
		t.Error("what was handed in was changed")
	}
}

// P3.4: an answer written over afterwards, spare room too, changes nothing; nor is it changed later.
func TestImageIsNew(t *testing.T) {
	d := newDisk(t, slotsSize)
	formatted := format(t, d, imageOf(1, 20))
	for i, s := range []*super.Super{formatted, wantOpen(t, "Open", d, imageOf(1, 20), 1)} {
		first, second := s.Image(), s.Image()
		_ = append(first, "more"...)
		clear(first[:cap(first)])
		if !bytes.Equal(second, imageOf(1, 20)) {
			t.Errorf("%d: another answer became % x", i, second)
		}
		wantTold(t, i, s, imageOf(1, 20), 1)
		wantOpen(t, i, d, imageOf(1, 20), 1)
	}
	kept := formatted.Image()
	formatted.Commit(imageOf(2, 20))
	formatted.Commit(imageOf(3, 20))
	if !bytes.Equal(kept, imageOf(1, 20)) {
		t.Errorf("an answer became % x later", kept)
	}
	empty := format(t, d, nil)
	_ = append(empty.Image(), "more"...)
	wantTold(t, "empty", empty, nil, 1)
}
