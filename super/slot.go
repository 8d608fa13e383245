package super

import (
	"bytes"
	"slices"

	"winnower/api"
	"winnower/octet"
	"winnower/sector"
)

// slots is how many slots a disk has.
const slots = 2

// greatest is the greatest number of a slot.
const greatest = 1 << 50

// How many bytes the parts of a slot have; what a sector bears lies between its head and its Sum.
const (
	numberBytes = 8
	sumBytes    = 4
	sizeBytes   = 2
	headBytes   = numberBytes + 1
	summedBytes = headBytes + api.SlotBytes
)

// Pack is a slot's sectors.
func Pack(n int, image []byte) [][]byte {
	if n < 1 || n > greatest || len(image) > api.MaxImage {
		return nil
	}
	borne := octet.Join(lowFirst(len(image), sizeBytes), image, make([]byte, api.MaxImage-len(image)))
	rows := make([][]byte, api.SlotSize)
	for k := range rows {
		summed := octet.Join(lowFirst(n, numberBytes), []byte{byte(k)}, borne[k*api.SlotBytes:(k+1)*api.SlotBytes])
		rows[k] = octet.Join(summed, lowFirst(int(octet.Sum(summed)), sumBytes))
	}
	return rows
}

// unpack is what a slot's sectors tell: nothing, if they are not Pack of a number and an image.
func unpack(rows [][]byte) told {
	var borne octet.Writer
	for _, row := range rows {
		borne.Raw(row[headBytes:summedBytes]...)
	}
	r := octet.NewReader(borne.Out())
	image := r.Raw(int(fromLow(r.Raw(sizeBytes))))
	t := told{numberOf(rows[0]), image}
	if !slices.EqualFunc(rows, t.rows(), bytes.Equal) {
		return told{}
	}
	return t
}

// numberOf is the number that a sector of a slot bears; 0, if its Sum is wrong, or a slot has no such number.
func numberOf(row []byte) int {
	if fromLow(row[summedBytes:]) != uint64(octet.Sum(row[:summedBytes])) {
		return 0
	}
	n := fromLow(row[:numberBytes])
	if n > greatest {
		return 0
	}
	return int(n)
}

// lowFirst is a number as so many bytes, the lowest first.
func lowFirst(n, size int) []byte {
	b := make([]byte, size)
	for i := range b {
		b[i] = byte(n >> (8 * i))
	}
	return b
}

// fromLow is the number that bytes are, the lowest first.
func fromLow(b []byte) uint64 {
	n := uint64(0)
	for i, c := range b {
		n |= uint64(c) << (8 * i)
	}
	return n
}

// hasSlots tells whether there is a disk with room for the slots.
func hasSlots(d *sector.Disk) bool {
	return d.Len() >= slots*api.SlotSize
}

// readSlot is the sectors of one slot.
func readSlot(d *sector.Disk, slot int) ([][]byte, api.Errno) {
	rows := make([][]byte, api.SlotSize)
	for k := range rows {
		row, e := d.Read(slot*api.SlotSize + k)
		if e != api.OK {
			return nil, e
		}
		rows[k] = row
	}
	return rows, api.OK
}

// writeSlot lays the sectors of one slot, and makes them last.
func writeSlot(d *sector.Disk, slot int, rows [][]byte) api.Errno {
	for k, row := range rows {
		if e := d.Write(slot*api.SlotSize+k, row...); e != api.OK {
			return e
		}
	}
	return d.Flush()
}
