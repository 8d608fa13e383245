package super_test

import (
	"bytes"
	"encoding/binary"
	"hash/crc32"
	"math"
	"slices"
	"testing"

	"winnower/api"
	"winnower/super"
)

const maxNumber = 1 << 50

// sectorOf is a sector of a slot, of any number and place.
func sectorOf(n uint64, place byte, borne []byte) []byte {
	row := binary.LittleEndian.AppendUint64(nil, n)
	row = append(append(row, place), borne...)
	return binary.LittleEndian.AppendUint32(row, crc32.ChecksumIEEE(row))
}

// bearing is a slot of any number whose sectors bear any bytes, noughts behind them.
func bearing(n uint64, borne ...byte) [][]byte {
	all := append(bytes.Clone(borne), make([]byte, api.SlotSize*api.SlotBytes-len(borne))...)
	var rows [][]byte
	for k := range api.SlotSize {
		rows = append(rows, sectorOf(n, byte(k), all[k*api.SlotBytes:(k+1)*api.SlotBytes]))
	}
	return rows
}

// slotOf is a slot of any number that is, but for it, whole.
func slotOf(n uint64, image []byte) [][]byte {
	return bearing(n, append(binary.LittleEndian.AppendUint16(nil, uint16(len(image))), image...)...)
}

// imageOf is an image of so many bytes, unlike those of another seed in each sector.
func imageOf(seed, size int) []byte {
	image := make([]byte, size)
	for i := range image {
		image[i] = byte(seed*89 + i*7 + i/api.SlotBytes)
	}
	return image
}

// sizes is the lengths of images at whose sides something changes.
func sizes() []int {
	list := []int{0, 1, 2, 255, 256, 257, 300, api.MaxImage - 1, api.MaxImage}
	for k := 1; k < api.SlotSize; k++ {
		end := k*api.SlotBytes - 2
		list = append(list, end-1, end, end+1)
	}
	return list
}

// same tells whether rows of bytes are the same.
func same(a, b [][]byte) bool {
	return slices.EqualFunc(a, b, bytes.Equal)
}

// P3.1
func TestPackLaysSectors(t *testing.T) {
	for _, n := range []int{1, 2, 255, 256, 1<<32 - 1, 1 << 32, 1<<40 + 12345, maxNumber - 1, maxNumber} {
		for _, size := range sizes() {
			image := imageOf(n, size)
			if got, want := super.Pack(n, image), slotOf(uint64(n), image); !same(got, want) {
				t.Errorf("Pack(%d, %d bytes): % x, want % x", n, size, got, want)
			}
		}
	}
}

// P3.1: a slot in plain bytes.
func TestPackByHand(t *testing.T) {
	rows := super.Pack(0x30201, []byte{0xaa, 0xbb})
	if len(rows) != api.SlotSize {
		t.Fatal(len(rows))
	}
	for k, row := range rows {
		want := make([]byte, 60)
		copy(want, []byte{1, 2, 3, 0, 0, 0, 0, 0, byte(k)})
		if k == 0 {
			copy(want[9:], []byte{2, 0, 0xaa, 0xbb})
		}
		sum := crc32.ChecksumIEEE(want)
		want = append(want, byte(sum), byte(sum>>8), byte(sum>>16), byte(sum>>24))
		if !bytes.Equal(row, want) {
			t.Errorf("sector %d: % x, want % x", k, row, want)
		}
	}
}

// P3.1: of no byte; nil and empty are one.
func TestPackOfNoByte(t *testing.T) {
	for _, image := range [][]byte{nil, {}} {
		if got := super.Pack(7, image); !same(got, bearing(7)) {
			t.Errorf("% x", got)
		}
	}
}

// P3.1
func TestPackOfWrongNumber(t *testing.T) {
	for _, n := range []int{0, -1, -256, math.MinInt, math.MinInt + 1, maxNumber + 1, 1 << 51, 1 << 62, math.MaxInt} {
		for _, size := range []int{0, 5, api.MaxImage, api.MaxImage + 1} {
			if rows := super.Pack(n, make([]byte, size)); len(rows) != 0 {
				t.Errorf("Pack(%d, %d bytes): % x", n, size, rows)
			}
		}
	}
}

// P3.1
func TestPackOfTooMany(t *testing.T) {
	for _, n := range []int{1, 2, maxNumber} {
		for _, size := range []int{api.MaxImage + 1, api.MaxImage + 2, 1 << 16, 1<<16 + 5, 1 << 20} {
			if rows := super.Pack(n, make([]byte, size)); len(rows) != 0 {
				t.Errorf("Pack(%d, %d bytes): % x", n, size, rows)
			}
		}
	}
}

// P3.4: spare room behind what is handed in stays, too.
func TestPackChangesNothingHandedIn(t *testing.T) {
	for _, size := range []int{0, 3, api.MaxImage} {
		room := append(imageOf(1, size), "spare"...)
		rows := super.Pack(3, room[:size])
		if !bytes.Equal(room, append(imageOf(1, size), "spare"...)) {
			t.Errorf("what was handed in became % x", room)
		}
		clear(room)
		if !same(rows, slotOf(3, imageOf(1, size))) {
			t.Errorf("of %d bytes: an answer shares what was handed in", size)
		}
	}
}

// P3.4: no row shares another's memory, spare room too.
func TestPackAnswersNewMemory(t *testing.T) {
	image := imageOf(2, api.MaxImage)
	rows, want := super.Pack(9, image), slotOf(9, image)
	for k := range rows {
		_ = append(rows[k], "more than there is room for"...)
		clear(rows[k][:cap(rows[k])])
		if !same(rows[:k], want[:k]) || !same(rows[k+1:], want[k+1:]) {
			t.Fatalf("another row changed with row %d", k)
		}
		copy(rows[k], want[k])
	}
	if !same(rows, want) || !bytes.Equal(image, imageOf(2, api.MaxImage)) {
		t.Error("an answer shares another, or what was handed in")
	}
	clear(rows[:cap(rows)])
	if !same(super.Pack(9, image), want) {
		t.Error("an answer shares a later one")
	}
}
