package wire_test

import (
	"strings"
	"testing"

	"onair/wire"
)

// plainSum computes a checksum bit by bit, as the chapter defines it.
func plainSum(s string) int {
	register := uint32(0xFFFFFFFF)
	for _, b := range []byte(s) {
		register ^= uint32(b)
		for range 8 {
			out := register & 1
			register >>= 1
			if out == 1 {
				register ^= 0x82F63B78
			}
		}
	}
	return int(register ^ 0xFFFFFFFF)
}

// samples returns strings of all bytes, of many lengths, and of much the same bytes.
func samples() []string {
	bytes := make([]byte, 600)
	state := uint32(1)
	for i := range bytes {
		state = state*1664525 + 1013904223
		bytes[i] = byte(state >> 24)
	}
	all := []string{strings.Repeat("\x00", 40), strings.Repeat("\xff", 40), strings.Repeat("x", 65536)}
	for size := range 100 {
		all = append(all, string(bytes[size:2*size]))
	}
	return append(all, string(bytes))
}

// P1.3: checksums that are known.
func TestSumValues(t *testing.T) {
	for _, c := range []struct {
		s   string
		sum int
	}{
		{"", 0}, {"a", 0xC1D04330}, {"123456789", 0xE3069283},
		{strings.Repeat("\x00", 32), 0x8A9136AA}, {strings.Repeat("\xff", 32), 0x62A8AB43},
	} {
		if sum := wire.Sum(c.s); sum != c.sum {
			t.Errorf("Sum(%x) = %x, want %x", c.s, sum, c.sum)
		}
	}
}

// P1.3: the definition, for every byte and for long strings.
func TestSumDefinition(t *testing.T) {
	for b := range 256 {
		for _, s := range []string{string([]byte{byte(b)}), string([]byte{'x', byte(b), 'y'})} {
			if sum, want := wire.Sum(s), plainSum(s); sum != want {
				t.Errorf("Sum(%x) = %x, want %x", s, sum, want)
			}
		}
	}
	for _, s := range samples() {
		sum, want := wire.Sum(s), plainSum(s)
		if sum != want || sum < 0 || sum > 0xFFFFFFFF {
			t.Errorf("Sum(%.40x) = %x, want %x", s, sum, want)
		}
	}
}

// flipped returns s with the bits of pattern changed, from the given bit on, the lowest bit of each byte first.
func flipped(s string, bit int, pattern uint32) string {
	bytes := []byte(s)
	for i := range 32 {
		if pattern>>i&1 == 1 {
			bytes[(bit+i)/8] ^= 1 << ((bit + i) % 8)
		}
	}
	return string(bytes)
}

// P1.4: a change of at most 32 consecutive bits changes the checksum.
func TestSumChanges(t *testing.T) {
	// The first and the last are the polynomial without its highest bit, in both orders of bits.
	patterns := []uint32{0x82F63B78, 0x05EC76F1, 0xFFFFFFFF, 0x80000001, 0xAAAAAAAA, 0xDEADBEEF, 0x1EDC6F41}
	for i := range 32 {
		patterns = append(patterns, 1<<i, 1<<i|1, 1<<i-1|1)
	}
	for _, s := range []string{"abcd", "\x00\x00\x00\x00", "\xff\xff\xff\xff", strings.Repeat("onair", 9)} {
		sum := wire.Sum(s)
		for bit := 0; bit+32 <= 8*len(s); bit++ {
			for _, pattern := range patterns {
				if changed := flipped(s, bit, pattern); wire.Sum(changed) == sum {
					t.Errorf("%x and %x have the same checksum", s, changed)
				}
			}
		}
	}
}

// P1.4: no two strings of two bytes have the same checksum, for they differ in at most 16 consecutive bits.
func TestSumOfShortStrings(t *testing.T) {
	seen := map[int]int{}
	for v := range 1 << 16 {
		sum := wire.Sum(string([]byte{byte(v), byte(v >> 8)}))
		if other, ok := seen[sum]; ok {
			t.Fatalf("%04x and %04x have the same checksum", v, other)
		}
		seen[sum] = v
	}
}
