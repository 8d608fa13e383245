// Package exact is what all that is laid in just one way has in common.
package exact

import (
	"bytes"

	"winnower/api"
	"winnower/octet"
)

// Summed is what a Writer has laid, and behind it the four bytes of its Sum, the lowest first.
func Summed(w *octet.Writer) []byte {
	laid := w.Out()
	sum := octet.Sum(laid)
	return octet.Join(laid, []byte{byte(sum), byte(sum >> 8), byte(sum >> 16), byte(sum >> 24)})
}

// Taken is what was taken from b, if it may be laid and is laid as just these bytes, else api.ErrForm: whatever is wrong with b makes it another one.
func Taken[T any](b []byte, x T, lay func(T) ([]byte, api.Errno)) (T, api.Errno) {
	again, e := lay(x)
	if e != api.OK || !bytes.Equal(again, b) {
		var none T
		return none, api.ErrForm
	}
	return x, api.OK
}
