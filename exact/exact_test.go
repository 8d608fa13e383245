package exact_test

import (
	"bytes"
	"testing"

	"winnower/api"
	"winnower/exact"
	"winnower/octet"
)

func TestSummed(t *testing.T) {
	var w octet.Writer
	w.Raw([]byte("123456789")...)
	if got := exact.Summed(&w); string(got) != "123456789\x26\x39\xf4\xcb" {
		t.Errorf("%x", got)
	}
	if got := exact.Summed(nil); !bytes.Equal(got, make([]byte, 4)) {
		t.Errorf("of nothing: %x", got)
	}
}

func TestTaken(t *testing.T) {
	lay := func(n int) ([]byte, api.Errno) {
		if n > 9 {
			return []byte{byte(n)}, api.ErrLong
		}
		return []byte{byte(n)}, api.OK
	}
	for n := range 12 {
		got, e := exact.Taken([]byte{byte(n)}, n, lay)
		if n <= 9 && (e != api.OK || got != n) || n > 9 && (e != api.ErrForm || got != 0) {
			t.Errorf("%d: error %d, %d", n, e, got)
		}
	}
	if got, e := exact.Taken([]byte{3, 0}, 3, lay); e != api.ErrForm || got != 0 {
		t.Errorf("of other bytes: error %d, %d", e, got)
	}
}
