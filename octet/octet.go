// Package octet is numbers as bytes: see DOC.md, chapter 1.
package octet

// greatest is the greatest number that is laid or taken.
const greatest = 1 << 62

// numBytes is how many bytes the greatest number has.
const numBytes = 9

// crcSteps is, of each four digits at the low end of a sum, what is left when they are divided away.
var crcSteps = [16]uint32{
	0x00000000, 0x1db71064, 0x3b6e20c8, 0x26d930ac,
	0x76dc4190, 0x6b6b51f4, 0x4db26158, 0x5005713c,
	0xedb88320, 0xf00f9344, 0xd6d6a3e8, 0xcb61b38c,
	0x9b64c2b0, 0x86d3d2d4, 0xa00ae278, 0xbdbdf21c,
}

// Writer is bytes that are laid one behind the other.
type Writer struct {
	laid []byte
}

// Nums lays numbers from 0 on.
func (w *Writer) Nums(v ...int) {
	for _, n := range v {
		w.num(n)
	}
}

// num lays one number, brought into the bounds of what may be laid.
func (w *Writer) num(n int) {
	rest := min(max(n, 0), greatest)
	for rest > 0x7f {
		w.Raw(byte(rest&0x7f) | 0x80)
		rest >>= 7
	}
	w.Raw(byte(rest))
}

// Bytes lays rows of bytes, each with its length.
func (w *Writer) Bytes(p ...[]byte) {
	for _, row := range p {
		w.num(len(row))
		w.Raw(row...)
	}
}

// Raw lays bytes as they are.
func (w *Writer) Raw(p ...byte) {
	if w != nil {
		w.laid = append(w.laid, p...)
	}
}

// Out is what was laid.
func (w *Writer) Out() []byte {
	if w == nil {
		return nil
	}
	return Join(w.laid)
}

// Reader is bytes that are taken one by one; the first error stays.
type Reader struct {
	rest []byte // empty, if bad
	bad  bool
}

// NewReader takes from bytes.
func NewReader(p []byte) *Reader {
	return &Reader{rest: Join(p)}
}

// Num takes a number.
func (r *Reader) Num() int {
	if !r.Good() {
		return 0
	}
	n, size := firstNum(r.rest)
	if size == 0 {
		r.Bad()
		return 0
	}
	r.rest = r.rest[size:]
	return n
}

// firstNum is the number at the beginning of b, and how many bytes it has: 0, if none stands there.
func firstNum(b []byte) (n, size int) {
	// A number of more bytes would be above the greatest, or end in 00: none is looked at behind these.
	for i, c := range b[:min(len(b), numBytes)] {
		n |= int(c&0x7f) << (7 * i)
		if c > 0x7f {
			continue
		}
		if n > greatest || i > 0 && c == 0 {
			return 0, 0
		}
		return n, i + 1
	}
	return 0, 0
}

// Nums takes numbers into places.
func (r *Reader) Nums(to ...*int) {
	for _, place := range to {
		n := r.Num()
		if place != nil {
			*place = n
		}
	}
}

// Bytes takes a row of bytes.
func (r *Reader) Bytes() []byte {
	return r.Raw(r.Num())
}

// Raw takes so many bytes.
func (r *Reader) Raw(n int) []byte {
	if !r.Good() {
		return nil
	}
	if n < 0 || n > len(r.rest) {
		r.Bad()
		return nil
	}
	p := Join(r.rest[:n])
	r.rest = r.rest[n:]
	return p
}

// Left is how many bytes are left.
func (r *Reader) Left() int {
	if r == nil {
		return 0
	}
	return len(r.rest)
}

// Bad makes it err, if it does not yet.
func (r *Reader) Bad() {
	if r != nil {
		*r = Reader{bad: true}
	}
}

// Good tells whether nothing erred.
func (r *Reader) Good() bool {
	return r != nil && !r.bad
}

// Whole tells whether nothing erred, and nothing is left.
func (r *Reader) Whole() bool {
	return r.Good() && r.Left() == 0
}

// Join is rows of bytes, one behind the other.
func Join(p ...[]byte) []byte {
	size := 0
	for _, row := range p {
		size += len(row)
	}
	all := make([]byte, 0, size)
	for _, row := range p {
		all = append(all, row...)
	}
	return all
}

// Sum is the check sum of rows of bytes, one behind the other.
func Sum(p ...[]byte) uint32 {
	sum := ^uint32(0)
	for _, row := range p {
		for _, b := range row {
			sum ^= uint32(b)
			sum = sum>>4 ^ crcSteps[sum&15]
			sum = sum>>4 ^ crcSteps[sum&15]
		}
	}
	return ^sum
}
