package digest

import (
	"encoding/binary"
	"testing"
)

// P2.1: the padding of strings that are too long to be digested in a test: their lengths as numbers of bits need more than 32 bits.
func TestPaddingOfLongStrings(t *testing.T) {
	for _, size := range []int{0, 55, 56, 1<<29 - 1, 1 << 29, 1<<31 - 2, 1<<31 - 1} {
		p := padding(size)
		length := binary.BigEndian.Uint64([]byte(p[len(p)-8:]))
		if p[0] != 128 || (size+len(p))%64 != 0 || len(p) < 9 || len(p) > 72 || length != 8*uint64(size) {
			t.Errorf("padding of %d bytes: %x", size, p)
		}
	}
}
