package super_test

import (
	"bytes"
	"math"
	"testing"

	"winnower/api"
	"winnower/sector"
	"winnower/super"
)

const slotsSize = 2 * api.SlotSize

func newDisk(t *testing.T, n int) *sector.Disk {
	t.Helper()
	d, e := sector.New(n)
	if e != api.OK {
		t.Fatalf("New(%d): %d", n, e)
	}
	return d
}

// diskOf is a disk on which the slots were laid; a nil one holds noughts.
func diskOf(t *testing.T, laid ...[][]byte) *sector.Disk {
	t.Helper()
	d := newDisk(t, slotsSize)
	for slot, rows := range laid {
		for k, row := range rows {
			wantErr(t, "Write", d.Write(slot*api.SlotSize+k, row...), api.OK)
		}
	}
	wantErr(t, "Flush", d.Flush(), api.OK)
	return d
}

func wantErr(t *testing.T, what any, got, want api.Errno) {
	t.Helper()
	if got != want {
		t.Errorf("%v: error %d, want %d", what, got, want)
	}
}

// wantTold looks what a Super tells.
func wantTold(t *testing.T, what any, s *super.Super, image []byte, number int) {
	t.Helper()
	if got := s.Image(); !bytes.Equal(got, image) || s.Number() != number {
		t.Errorf("%v: number %d, image % x, want number %d, image % x", what, s.Number(), got, number, image)
	}
}

// wantOpen opens a disk, and looks what it tells.
func wantOpen(t *testing.T, what any, d *sector.Disk, image []byte, number int) *super.Super {
	t.Helper()
	s, e := super.Open(d)
	if e != api.OK || s == nil {
		t.Fatalf("%v: Open: %v, %d", what, s, e)
	}
	wantTold(t, what, s, image, number)
	if s.Dead() {
		t.Errorf("%v: opened, and dead", what)
	}
	return s
}

func wantNoneOpen(t *testing.T, what any, d *sector.Disk, want api.Errno) {
	t.Helper()
	if s, e := super.Open(d); s != nil || e != want {
		t.Errorf("%v: Open: %v, %d, want %d", what, s, e, want)
	}
}

// wantSlot looks what a slot of a disk holds.
func wantSlot(t *testing.T, what any, d *sector.Disk, slot int, want [][]byte) {
	t.Helper()
	for k, row := range want {
		if got, e := d.Read(slot*api.SlotSize + k); e != api.OK || !bytes.Equal(got, append(bytes.Clone(row), make([]byte, api.Sector-len(row))...)) {
			t.Errorf("%v: slot %d, sector %d: % x (error %d), want % x", what, slot, k, got, e, row)
		}
	}
}

// with is a slot in which one sector is another.
func with(rows [][]byte, k int, row []byte) [][]byte {
	other := append([][]byte{}, rows...)
	other[k] = row
	return other
}

// turned is a row in which one binary digit is the other.
func turned(row []byte, bit int) []byte {
	other := bytes.Clone(row)
	other[bit/8] ^= 1 << (bit % 8)
	return other
}

// P3.2
func TestOpenOfTooFew(t *testing.T) {
	wantNoneOpen(t, "nil", nil, api.ErrArg)
	wantNoneOpen(t, "a Disk that New did not make", &sector.Disk{}, api.ErrArg)
	for _, n := range []int{1, 2, api.SlotSize - 1, api.SlotSize, api.SlotSize + 1, slotsSize - 1} {
		d := newDisk(t, n)
		for k, row := range slotOf(1, nil) {
			d.Write(k, row...)
		}
		wantNoneOpen(t, n, d, api.ErrArg)
	}
}

// P3.2
func TestOpenOfNoughts(t *testing.T) {
	for _, n := range []int{slotsSize, slotsSize + 1, api.MaxDisk} {
		wantNoneOpen(t, n, newDisk(t, n), api.ErrForm)
	}
}

// P3.2: one slot is whole, the other is of noughts, or of what is no slot.
func TestOpenOfOneWhole(t *testing.T) {
	a := imageOf(1, 200)
	other := bytes.Repeat([]byte{0xff}, api.Sector)
	var none [][]byte
	for range api.SlotSize {
		none = append(none, other)
	}
	for _, n := range []int{1, 2, 300, maxNumber - 1, maxNumber} {
		rows := slotOf(uint64(n), a)
		wantOpen(t, "the first", diskOf(t, rows, nil), a, n)
		wantOpen(t, "the second", diskOf(t, nil, rows), a, n)
		wantOpen(t, "the first, and none", diskOf(t, rows, none), a, n)
		wantOpen(t, "the second, and none", diskOf(t, none, rows), a, n)
	}
	wantNoneOpen(t, "none", diskOf(t, none, none), api.ErrForm)
}

// P3.2
func TestOpenOfImagesOfAnySize(t *testing.T) {
	for _, size := range sizes() {
		image := imageOf(3, size)
		wantOpen(t, size, diskOf(t, slotOf(5, image)), image, 5)
		wantOpen(t, size, diskOf(t, nil, slotOf(5, image)), image, 5)
	}
}

// P3.2: of two whole ones that with the greater number, of one number the first.
func TestOpenOfBothWhole(t *testing.T) {
	a, b := imageOf(1, 100), imageOf(2, 100)
	numbers := []int{1, 2, 3, 255, 256, 1 << 32, maxNumber - 1, maxNumber}
	for _, first := range numbers {
		for _, second := range numbers {
			want := a
			if second > first {
				want = b
			}
			wantOpen(t, []int{first, second}, diskOf(t, slotOf(uint64(first), a), slotOf(uint64(second), b)), want, max(first, second))
		}
	}
}

// P3.1, P3.2: of one sector any digit that is wrong makes the slot none.
func TestOpenOfWrongDigit(t *testing.T) {
	a, b := imageOf(1, api.MaxImage), imageOf(2, 300)
	rows := slotOf(5, a)
	for k := range rows {
		for bit := range 8 * api.Sector {
			if k > 1 && bit%29 != k%29 {
				continue
			}
			wrong := with(rows, k, turned(rows[k], bit))
			wantNoneOpen(t, []int{k, bit}, diskOf(t, wrong), api.ErrForm)
			// The other sectors still bear the number.
			wantOpen(t, []int{k, bit}, diskOf(t, wrong, slotOf(2, b)), b, 5)
			wantOpen(t, []int{k, bit}, diskOf(t, slotOf(2, b), wrong), b, 5)
		}
	}
}

// P3.1, P3.2: a sector whose Sum is wrong bears no number.
func TestOpenPassesOverWrongSums(t *testing.T) {
	a := imageOf(1, 70)
	for bit := range 8 * api.Sector {
		row := turned(sectorOf(900, 3, make([]byte, api.SlotBytes)), bit)
		wantOpen(t, bit, diskOf(t, slotOf(4, a), with(slotOf(3, nil), 3, row)), a, 4)
		wantOpen(t, bit, diskOf(t, with(make([][]byte, api.SlotSize), 0, row), slotOf(4, a)), a, 4)
	}
	// Of all sectors of the slot.
	var rows [][]byte
	for _, row := range slotOf(900, a) {
		rows = append(rows, turned(row, 511))
	}
	wantOpen(t, "all wrong", diskOf(t, slotOf(4, a), rows), a, 4)
	wantNoneOpen(t, "all wrong", diskOf(t, rows, rows), api.ErrForm)
}

// P3.1, P3.2: sectors that stand at another place; their numbers count all the same.
func TestOpenOfWrongPlace(t *testing.T) {
	a, b := imageOf(1, api.MaxImage), imageOf(2, 9)
	rows := slotOf(5, a)
	for k, row := range rows {
		borne := row[9:60]
		for _, place := range []byte{byte(k + 1), byte(k + 15), byte(k + 16), byte(k + 128), byte(k + 255)} {
			wrong := with(rows, k, sectorOf(5, place, borne))
			wantNoneOpen(t, []byte{byte(k), place}, diskOf(t, wrong), api.ErrForm)
			wantNoneOpen(t, []byte{byte(k), place}, diskOf(t, nil, wrong), api.ErrForm)
			wantOpen(t, []byte{byte(k), place}, diskOf(t, slotOf(2, b), with(slotOf(1, a), k, sectorOf(8, place, borne))), b, 8)
		}
	}
	for k := range api.SlotSize - 1 {
		swapped := with(with(rows, k, rows[k+1]), k+1, rows[k])
		wantOpen(t, k, diskOf(t, swapped, slotOf(2, b)), b, 5)
	}
}

// P3.1, P3.2: a slot whose sectors are not of one number is none.
func TestOpenOfMixedNumbers(t *testing.T) {
	a, b := imageOf(1, api.MaxImage), imageOf(2, 9)
	for k := range api.SlotSize {
		for _, n := range []uint64{1, 4, 6, 300, maxNumber} {
			wrong := with(slotOf(5, a), k, slotOf(n, a)[k])
			wantNoneOpen(t, k, diskOf(t, wrong), api.ErrForm)
			wantNoneOpen(t, k, diskOf(t, nil, wrong), api.ErrForm)
			wantOpen(t, k, diskOf(t, wrong, slotOf(2, b)), b, max(5, int(n)))
			wantOpen(t, k, diskOf(t, slotOf(2, b), wrong), b, max(5, int(n)))
		}
	}
}

// wrongNumbers is numbers of eight bytes that no slot has.
func wrongNumbers() []uint64 {
	return []uint64{0, maxNumber + 1, 1 << 51, 1<<62 + 7, math.MaxInt64, 1 << 63, 1<<63 + 1, math.MaxUint64 - 1, math.MaxUint64}
}

// P3.1, P3.2: a number below 1 or above 2^50 makes no slot, and does not count.
func TestOpenOfWrongNumber(t *testing.T) {
	a, b := imageOf(1, 30), imageOf(2, 9)
	for _, n := range wrongNumbers() {
		wrong := slotOf(n, a)
		wantNoneOpen(t, n, diskOf(t, wrong, wrong), api.ErrForm)
		wantOpen(t, n, diskOf(t, wrong, slotOf(2, b)), b, 2)
		wantOpen(t, n, diskOf(t, slotOf(2, b), wrong), b, 2)
		for k := range api.SlotSize {
			one := with(slotOf(5, a), k, wrong[k])
			wantNoneOpen(t, n, diskOf(t, one), api.ErrForm)
			wantOpen(t, n, diskOf(t, one, slotOf(2, b)), b, 5)
		}
	}
}

// P3.2: a sector of a slot that is not whole bears the greatest number.
func TestOpenTellsGreatestNumber(t *testing.T) {
	a := imageOf(1, 500)
	for _, n := range []uint64{1, 6, 7, 8, 1 << 33, maxNumber - 1, maxNumber} {
		for k := range api.SlotSize {
			for _, laid := range [][2][][]byte{
				{slotOf(7, a), with(make([][]byte, api.SlotSize), k, slotOf(n, nil)[k])},
				{with(make([][]byte, api.SlotSize), k, slotOf(n, nil)[k]), slotOf(7, a)},
			} {
				s := wantOpen(t, []int{int(n), k}, diskOf(t, laid[0], laid[1]), a, max(7, int(n)))
				want := api.OK
				if n == maxNumber {
					want = api.ErrLong
				}
				wantErr(t, n, s.Commit(nil), want)
			}
		}
	}
}

// P3.1, P3.2: a slot whose length says more than MaxImage.
func TestOpenOfWrongLength(t *testing.T) {
	for _, size := range []int{api.MaxImage + 1, api.MaxImage + 2, 816, 1 << 12, 1 << 15, 1<<16 - 1} {
		borne := append([]byte{byte(size), byte(size >> 8)}, imageOf(1, api.MaxImage)...)
		wantNoneOpen(t, size, diskOf(t, bearing(3, borne...)), api.ErrForm)
		wantNoneOpen(t, size, diskOf(t, nil, bearing(3, borne[:2]...)), api.ErrForm)
		wantOpen(t, size, diskOf(t, bearing(3, borne...), slotOf(2, []byte{5})), []byte{5}, 3)
	}
}

// P3.1, P3.2: a slot behind whose image there are no noughts.
func TestOpenOfNoNoughts(t *testing.T) {
	for _, size := range []int{0, 1, 48, 49, 50, 400, api.MaxImage - 1} {
		for _, at := range []int{size, (size + api.MaxImage) / 2, api.MaxImage - 1} {
			borne := make([]byte, api.SlotSize*api.SlotBytes)
			copy(borne, []byte{byte(size), byte(size >> 8)})
			copy(borne[2:], imageOf(1, size))
			borne[2+at] = 1
			wantNoneOpen(t, []int{size, at}, diskOf(t, bearing(3, borne...)), api.ErrForm)
			wantNoneOpen(t, []int{size, at}, diskOf(t, nil, bearing(3, borne...)), api.ErrForm)
			wantOpen(t, []int{size, at}, diskOf(t, slotOf(2, []byte{5}), bearing(3, borne...)), []byte{5}, 3)
		}
	}
}

// P3.2: what waits is read as it is, and waits on; a burnt fuse stops nothing.
func TestOpenReadsWhatWaits(t *testing.T) {
	a, b := imageOf(1, 100), imageOf(2, 100)
	d := diskOf(t, slotOf(1, a))
	for k, row := range slotOf(2, b) {
		d.Write(api.SlotSize+k, row...)
		want, number := a, 2
		if k == api.SlotSize-1 {
			want = b
		}
		wantOpen(t, k, d, want, number)
		if n := len(d.Waiting()); n != k+1 {
			t.Errorf("%d sectors wait, want %d", n, k+1)
		}
	}
	d.Fuse(0)
	wantOpen(t, "a burnt fuse", d, b, 2)
	wantErr(t, "a burnt fuse", d.Flush(), api.ErrDead)
	d.Crash()
	wantOpen(t, "behind the crash", d, a, 1)
}

// P3.2: opened twice, they tell the same; Open writes nothing.
func TestOpenChangesNothing(t *testing.T) {
	a, b := imageOf(1, 100), imageOf(2, 100)
	wrong := with(slotOf(9, b), 4, nil)
	d := diskOf(t, slotOf(3, a), wrong)
	d.Fuse(1)
	for range 2 {
		wantOpen(t, "again", d, a, 9)
		wantSlot(t, "again", d, 0, slotOf(3, a))
		wantSlot(t, "again", d, 1, wrong)
	}
	if len(d.Waiting()) != 0 {
		t.Error("waiting", d.Waiting())
	}
	wantErr(t, "the fuse's last", d.Flush(), api.OK)
	wantErr(t, "behind it", d.Flush(), api.ErrDead)
}

// P3.2: the sectors behind the slots are nothing to it.
func TestOpenOfGreaterDisk(t *testing.T) {
	d := newDisk(t, 3*api.SlotSize)
	for k, row := range slotOf(8, imageOf(1, 5)) {
		d.Write(slotsSize+k, row...)
	}
	wantNoneOpen(t, "a third slot", d, api.ErrForm)
	for k, row := range slotOf(2, imageOf(2, 5)) {
		d.Write(api.SlotSize+k, row...)
	}
	wantOpen(t, "the second", d, imageOf(2, 5), 2)
}
