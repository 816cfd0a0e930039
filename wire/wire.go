// Package wire is layer 1: it encodes integers and strings as bytes, decodes them, and computes checksums. See shared/doc/01-wire.md.
package wire

import (
	"strings"

	"onair/api"
)

// The groups of an integer have 7 bits; more is what is added to the byte of every group but the last one.
const (
	groupBits = 7
	more      = 1 << groupBits
)

// maxGroups is the number of groups of the greatest integer. No integer within the limits needs more, so a longer encoding is invalid whatever follows.
const maxGroups = 9

// PutInt returns the encoding of n.
func PutInt(n int) (string, api.Errno) {
	if n < -api.MaxInt || n > api.MaxInt {
		return "", api.ErrWire
	}
	var out []byte
	for b := range groups(fold(n)) {
		out = append(out, b)
	}
	return string(out), api.OK
}

// Int decodes the integer whose encoding begins at offset at of s, and returns it and the offset after it.
func Int(s string, at int) (int, int, api.Errno) {
	if at < 0 || at > len(s) {
		return 0, 0, api.ErrArg
	}
	z := 0
	for i := 0; i < maxGroups && i < len(s)-at; i++ {
		b := int(s[at+i])
		z |= b % more << (i * groupBits)
		if b < more {
			superfluous := b == 0 && i > 0
			if superfluous || z > fold(api.MaxInt) {
				return 0, 0, api.ErrWire
			}
			return unfold(z), at + i + 1, api.OK
		}
	}
	return 0, 0, api.ErrWire
}

// PutString returns the encoding of s.
func PutString(s string) (string, api.Errno) {
	if len(s) > api.MaxString {
		return "", api.ErrWire
	}
	length, err := PutInt(len(s))
	return length + s, err
}

// String decodes the string whose encoding begins at offset at of s, and returns it and the offset after it.
func String(s string, at int) (string, int, api.Errno) {
	length, start, err := Int(s, at)
	if err != api.OK {
		return "", 0, err
	}
	if length < 0 || length > api.MaxString || length > len(s)-start {
		return "", 0, api.ErrWire
	}
	end := start + length
	// A part of s would share its memory (R3), and a short result would keep a long s alive.
	return strings.Clone(s[start:end]), end, api.OK
}

// fold maps the integers to those from 0 on, so that small ones of either sign have short encodings. Within the limits, nothing overflows.
func fold(n int) int {
	if n < 0 {
		return -2*n - 1
	}
	return 2 * n
}

// unfold is the inverse of fold.
func unfold(z int) int {
	if z%2 == 1 {
		return -(z / 2) - 1
	}
	return z / 2
}

// groups yields the bytes of the encoding of z, which is not negative.
func groups(z int) func(yield func(byte) bool) {
	return func(yield func(byte) bool) {
		rest := z
		for rest >= more {
			if !yield(byte(rest%more + more)) {
				return
			}
			rest /= more
		}
		yield(byte(rest))
	}
}
