package digest

import (
	"math/bits"

	"onair/api"
)

// Root returns the root of l.
func Root(l []string) string {
	switch len(l) {
	case 0:
		return Sum("")
	case 1:
		return Leaf(l[0])
	}
	k := split(len(l))
	return Node(Root(l[:k]), Root(l[k:]))
}

// Proof returns the proof of the entry with the index i in l.
func Proof(l []string, i int) ([]string, api.Errno) {
	if i < 0 || i >= len(l) {
		return nil, api.ErrArg
	}
	return path(l, i), api.OK
}

// Verify reports whether the proof shows that s is the entry with the index i of a list with n entries and the given root.
func Verify(root string, n int, i int, s string, proof []string) bool {
	if i < 0 || i >= n || !areDigests(proof) {
		return false
	}
	value, ok := climbed(n, i, Leaf(s), proof)
	return ok && value == root
}

// split returns the greatest power of two that is less than n, where n is at least 2.
func split(n int) int {
	return 1 << (bits.Len(uint(n-1)) - 1)
}

// path returns the roots beside the way from the entry with the index i of l to the root of l.
func path(l []string, i int) []string {
	if len(l) == 1 {
		return nil
	}
	k := split(len(l))
	if i < k {
		return append(path(l[:k], i), Root(l[k:]))
	}
	return append(path(l[k:], i-k), Root(l[:k]))
}

// climbed returns the value of n, i and the proof for an entry with the given leaf, or false if the proof does not have as many elements as it must have.
func climbed(n, i int, leaf string, proof []string) (string, bool) {
	if n == 1 {
		return leaf, len(proof) == 0
	}
	rest, x, ok := parted(proof)
	if !ok {
		return "", false
	}
	k := split(n)
	if i < k {
		value, ok := climbed(k, i, leaf, rest)
		return Node(value, x), ok
	}
	value, ok := climbed(n-k, i-k, leaf, rest)
	return Node(x, value), ok
}

// parted returns all elements of the proof but the last one, and the last one, or false if there is none.
func parted(proof []string) ([]string, string, bool) {
	if len(proof) == 0 {
		return nil, "", false
	}
	last := len(proof) - 1
	return proof[:last], proof[last], true
}

// areDigests reports whether all the strings are digests.
func areDigests(all []string) bool {
	for _, s := range all {
		if len(s) != api.DigestSize {
			return false
		}
	}
	return true
}
