package wal_test

import (
	"math"
	"math/rand"
	"strings"
	"testing"

	"winnower/wal"
)

const alphabet = "0123456789abcdefghijklmnopqrstuvwxyz"

// name is what Name tells of a kind and a number that may be, digit by digit.
func name(kind byte, n int) string {
	s := alphabet[n%36 : n%36+1]
	for n /= 36; n > 0; n /= 36 {
		s = alphabet[n%36:n%36+1] + s
	}
	return string(rune(kind)) + s
}

// wantsName holds a name against plain words, and the way back.
func wantsName(t *testing.T, kind byte, n int, want string) {
	t.Helper()
	s := wal.Name(kind, n)
	if s != want || len(s) > 8 {
		t.Errorf("Name(%q, %d) = %q, want %q", kind, n, s, want)
	}
	if k, number, ok := wal.Number(want); !ok || k != kind || number != n {
		t.Errorf("Number(%q) = %q, %d, %v, want %q, %d", want, k, number, ok, kind, n)
	}
}

func wantsNoName(t *testing.T, kind byte, n int) {
	t.Helper()
	if s := wal.Name(kind, n); s != "" {
		t.Errorf("Name(%q, %d) = %q", kind, n, s)
	}
}

func wantsNoNumber(t *testing.T, s string) {
	t.Helper()
	if k, n, ok := wal.Number(s); ok || k != 0 || n != 0 {
		t.Errorf("Number(%.40q) = %q, %d, %v", s, k, n, ok)
	}
}

// The example: P20.2.
func TestNameExample(t *testing.T) {
	if s := wal.Name('w', 36); s != "w10" {
		t.Error(s)
	}
}

// P20.2: n at its edges, and each digit.
func TestName(t *testing.T) {
	for n, want := range map[int]string{0: "w0", 1: "w1", 9: "w9", 10: "wa", 35: "wz", 36: "w10", 37: "w11", 71: "w1z", 72: "w20", 1295: "wzz", 1296: "w100", 1 << 35: "wfs8wfsw", 1<<35 - 1: "wfs8wfsv"} {
		wantsName(t, 'w', n, want)
	}
	for n := range 3000 {
		wantsName(t, 's', n, name('s', n))
	}
	power := 1
	for power <= 1<<35 {
		for _, n := range []int{power - 1, power, power + 1, 35 * power} {
			if n <= 1<<35 {
				wantsName(t, 'm', n, name('m', n))
			}
		}
		power *= 36
	}
	r := rand.New(rand.NewSource(202))
	for range 3000 {
		n := r.Intn(1<<35 + 1)
		kind := byte('a' + r.Intn(26))
		wantsName(t, kind, n, name(kind, n))
	}
}

// P20.2: kinds a to z, and bytes beside them.
func TestKinds(t *testing.T) {
	for kind := range 256 {
		k := byte(kind)
		for _, n := range []int{0, 35, 36, 1 << 35} {
			if k >= 'a' && k <= 'z' {
				wantsName(t, k, n, name(k, n))
			} else {
				wantsNoName(t, k, n)
				wantsNoNumber(t, string([]byte{k})+name('w', n)[1:])
			}
		}
	}
}

// P20.2: an n that is not 0 to 2^35.
func TestNoName(t *testing.T) {
	for _, n := range []int{-1, -2, -35, -36, math.MinInt, math.MinInt + 1, 1<<35 + 1, 1<<35 + 2, 1 << 36, 36 * 36 * 36 * 36 * 36 * 36 * 36, 1 << 40, 1 << 62, math.MaxInt} {
		for _, kind := range []byte("amswz") {
			wantsNoName(t, kind, n)
		}
		wantsNoName(t, 'A', n)
	}
}

// P20.2: texts that are no names.
func TestNoNumber(t *testing.T) {
	for _, s := range []string{
		"", "w", "a", "z", "0", "10", "W", "{", "`",
		"w00", "w01", "w0a", "w00000", "w0000001", "w010",
		"wA", "w1A", "wZ", "wFS8WFSW", "W10", "wa0B",
		"w-1", "w+1", "w-0", "w+0", "w 1", "w1 ", " w1", "w1\n", "w1.", "w1_0", "w_1", "w1\x00", "w\x001", "w\xff", "wé", "w1é", "w0x1", "ww1!", "w/", "w:", "w`", "w{", "w@", "w[",
		"wfs8wfsx", "wfs8wfsz", "wzzzzzzz", "wg000000", "wfs8wft0",
		"w10000000", "wfs8wfsw0", "w0fs8wfsw", "w1y2p0ij32e8e7", "w1y2p0ij32e8e8", "w3w5e11264sgsf", "w3w5e11264sgsg", "w3w5e11264sgsh", "w3w5e11hydowlc", "wzzzzzzzzzzzzzzzzzzzzzzzzz", "w00000000000000000000000001",
		"éa", "\xff1", "w1w-1",
	} {
		wantsNoNumber(t, s)
	}
	wantsNoNumber(t, "w"+strings.Repeat("0", 1<<20))
	wantsNoNumber(t, "w"+strings.Repeat("1", 1<<20))
	wantsNoNumber(t, strings.Repeat("\x00", 1<<20))
	wantsName(t, 'w', 32*36+1, "ww1")
}

// P20.2: of all short texts of some bytes just the names have a number.
func TestAllShort(t *testing.T) {
	bytes := "awz0129AZ -+_\x00\xff"
	texts := []string{""}
	for range 4 {
		var next []string
		for _, s := range texts {
			k, n, ok := wal.Number(s)
			if ok && name(k, n) != s || !ok && (k != 0 || n != 0) {
				t.Errorf("Number(%q) = %q, %d, %v", s, k, n, ok)
			}
			if !ok && isName(s) {
				t.Errorf("%q has no number", s)
			}
			for i := range len(bytes) {
				next = append(next, s+bytes[i:i+1])
			}
		}
		texts = next
	}
}

// isName is whether a short text is a letter, and digits without noughts ahead.
func isName(s string) bool {
	if len(s) < 2 || s[0] < 'a' || s[0] > 'z' || len(s) > 2 && s[1] == '0' {
		return false
	}
	return strings.Trim(s[1:], alphabet) == ""
}
