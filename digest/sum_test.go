package digest_test

import (
	"crypto/sha256"
	"encoding/hex"
	"strings"
	"testing"

	"onair/api"
	"onair/digest"
)

// plainSum returns a digest as the library computes it.
func plainSum(s string) string {
	sum := sha256.Sum256([]byte(s))
	return string(sum[:])
}

// noise returns a string of bytes of all values.
func noise(size int) string {
	bytes := make([]byte, size)
	state := uint32(1)
	for i := range bytes {
		state = state*1664525 + 1013904223
		bytes[i] = byte(state >> 24)
	}
	return string(bytes)
}

// P2.1: digests that are known.
func TestSumValues(t *testing.T) {
	for _, c := range []struct{ got, want string }{
		{digest.Sum(""), "e3b0c44298fc1c149afbf4c8996fb92427ae41e4649b934ca495991b7852b855"},
		{digest.Sum("abc"), "ba7816bf8f01cfea414140de5dae2223b00361a396177a9cb410ff61f20015ad"},
		{digest.Sum(strings.Repeat("a", 1000000)), "cdc76e5c9914fb9281a1c7e284d73e67f1809a48a497200e046d39ccc7112cd0"},
		{digest.Leaf("abc"), "609f6e36d2405585188d5cfd761f407c7cc46a7d3f314c88270469dde315fcd1"},
	} {
		if got := hex.EncodeToString([]byte(c.got)); got != c.want {
			t.Errorf("%s, want %s", got, c.want)
		}
	}
}

// P2.1: digests of every length of padding, up to some blocks, and of long strings.
func TestSumOfAllLengths(t *testing.T) {
	sizes := []int{1 << 16, 1<<16 - 9, 1<<16 - 8, 1 << 20}
	for size := range 400 {
		sizes = append(sizes, size)
	}
	for _, size := range sizes {
		for _, s := range []string{noise(size), strings.Repeat("\x00", size), strings.Repeat("\xff", size)} {
			if got, want := digest.Sum(s), plainSum(s); got != want {
				t.Errorf("Sum(%.40x), %d bytes: %x, want %x", s, size, got, want)
			}
		}
	}
}

// P2.1: what Leaf, Node and Chain digest, for strings of any length, empty ones among them.
func TestMarks(t *testing.T) {
	all := []string{"", "a", "\x00", "\x01\x02", noise(31), noise(32), noise(54), noise(55), noise(63), noise(64), noise(200)}
	for _, a := range all {
		if digest.Leaf(a) != plainSum("\x00"+a) {
			t.Errorf("Leaf(%x)", a)
		}
		for _, b := range all {
			if digest.Node(a, b) != plainSum("\x01"+a+b) {
				t.Errorf("Node(%x, %x)", a, b)
			}
			if digest.Chain(a, b) != plainSum("\x02"+a+b) {
				t.Errorf("Chain(%x, %x)", a, b)
			}
		}
	}
}

// head returns the head of a list of records.
func head(records []string) string {
	out := strings.Repeat("\x00", api.DigestSize)
	for _, r := range records {
		out = digest.Chain(out, r)
	}
	return out
}

// P2.3: lists of records that differ in an entry, in their order, in their lengths, or in where one record ends have different heads; so have lists whose records look like heads.
func TestHeads(t *testing.T) {
	lists := [][]string{{}, {strings.Repeat("\x00", api.DigestSize)}, {strings.Repeat("\x00", 2*api.DigestSize)}}
	words := []string{"", "a", "b", "aa", "ab", "ba", "\x02", head([]string{"a"}), head([]string{"a"}) + "b"}
	for _, a := range words {
		lists = append(lists, []string{a})
		for _, b := range words {
			lists = append(lists, []string{a, b})
			for _, c := range words {
				lists = append(lists, []string{a, b, c})
			}
		}
	}
	seen := map[string]int{}
	for i, l := range lists {
		h := head(l)
		if k, ok := seen[h]; ok {
			t.Errorf("%x and %x have the same head", l, lists[k])
		}
		seen[h] = i
	}
}
