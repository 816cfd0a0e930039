package digest

import (
	"math/bits"
	"slices"

	"onair/api"
)

// A block of SHA-256 has 64 bytes; the last eight bytes of the last block say how many bits were digested.
const (
	blockSize  = 64
	lengthSize = 8
	endMark    = 0x80
)

// A word of SHA-256 has 32 bits.
const (
	wordSize   = 4
	blockWords = blockSize / wordSize
	rounds     = 64
)

// keys contains the words k(0) to k(63).
var keys = [rounds]uint32{
	0x428a2f98, 0x71374491, 0xb5c0fbcf, 0xe9b5dba5, 0x3956c25b, 0x59f111f1, 0x923f82a4, 0xab1c5ed5,
	0xd807aa98, 0x12835b01, 0x243185be, 0x550c7dc3, 0x72be5d74, 0x80deb1fe, 0x9bdc06a7, 0xc19bf174,
	0xe49b69c1, 0xefbe4786, 0x0fc19dc6, 0x240ca1cc, 0x2de92c6f, 0x4a7484aa, 0x5cb0a9dc, 0x76f988da,
	0x983e5152, 0xa831c66d, 0xb00327c8, 0xbf597fc7, 0xc6e00bf3, 0xd5a79147, 0x06ca6351, 0x14292967,
	0x27b70a85, 0x2e1b2138, 0x4d2c6dfc, 0x53380d13, 0x650a7354, 0x766a0abb, 0x81c2c92e, 0x92722c85,
	0xa2bfe8a1, 0xa81a664b, 0xc24b8b70, 0xc76c51a3, 0xd192e819, 0xd6990624, 0xf40e3585, 0x106aa070,
	0x19a4c116, 0x1e376c08, 0x2748774c, 0x34b0bcb5, 0x391c0cb3, 0x4ed8aa4a, 0x5b9cca4f, 0x682e6ff3,
	0x748f82ee, 0x78a5636f, 0x84c87814, 0x8cc70208, 0x90befffa, 0xa4506ceb, 0xbef9a3f7, 0xc67178f2,
}

// sum returns the SHA-256 of the parts, one after the other. They are not joined first, for a record may be long.
func sum(parts ...string) string {
	size := 0
	for _, part := range parts {
		size += len(part)
	}
	state := [8]uint32{
		0x6a09e667, 0xbb67ae85, 0x3c6ef372, 0xa54ff53a,
		0x510e527f, 0x9b05688c, 0x1f83d9ab, 0x5be0cd19,
	}
	for block := range blocks(slices.Concat(parts, []string{padding(size)})...) {
		state = mixed(state, block)
	}
	out := make([]byte, 0, api.DigestSize)
	for _, word := range state {
		out = append(out, byte(word>>24), byte(word>>16), byte(word>>8), byte(word))
	}
	return string(out)
}

// padding returns what follows size bytes so that whole blocks are digested.
func padding(size int) string {
	zeros := (2*blockSize - 1 - lengthSize - size%blockSize) % blockSize
	out := make([]byte, 1+zeros, blockSize+lengthSize)
	out[0] = endMark
	length := 8 * uint64(size)
	for i := range lengthSize {
		out = append(out, byte(length>>(8*(lengthSize-1-i))))
	}
	return string(out)
}

// blocks yields the blocks of the parts, one after the other; bytes after the last whole block are not yielded.
func blocks(parts ...string) func(yield func([blockSize]byte) bool) {
	return func(yield func([blockSize]byte) bool) {
		var block [blockSize]byte
		used := 0
	parts:
		for _, rest := range parts {
			for {
				n := copy(block[used:], rest)
				used += n
				rest = rest[n:]
				if used < blockSize {
					continue parts
				}
				if !yield(block) {
					return
				}
				used = 0
			}
		}
	}
}

// schedule returns the words w(0) to w(63) of a block.
func schedule(block [blockSize]byte) [rounds]uint32 {
	var w [rounds]uint32
	for i := range blockWords {
		at := wordSize * i
		w[i] = uint32(block[at])<<24 | uint32(block[at+1])<<16 | uint32(block[at+2])<<8 | uint32(block[at+3])
	}
	for i := blockWords; i < rounds; i++ {
		p, q := w[i-15], w[i-2]
		x := turned(p, 7) ^ turned(p, 18) ^ p>>3
		y := turned(q, 17) ^ turned(q, 19) ^ q>>10
		w[i] = w[i-16] + x + w[i-7] + y
	}
	return w
}

// mixed returns the eight words that follow from the given ones and a block.
func mixed(state [8]uint32, block [blockSize]byte) [8]uint32 {
	w := schedule(block)
	a, b, c, d := state[0], state[1], state[2], state[3]
	e, f, g, h := state[4], state[5], state[6], state[7]
	for i := range rounds {
		t := h + (turned(e, 6) ^ turned(e, 11) ^ turned(e, 25)) + (e&f ^ ^e&g) + keys[i] + w[i]
		u := (turned(a, 2) ^ turned(a, 13) ^ turned(a, 22)) + (a&b ^ a&c ^ b&c)
		a, b, c, d, e, f, g, h = t+u, a, b, c, d+t, e, f, g
	}
	return [8]uint32{
		state[0] + a, state[1] + b, state[2] + c, state[3] + d,
		state[4] + e, state[5] + f, state[6] + g, state[7] + h,
	}
}

// turned returns the word rotated right by n bits.
func turned(word uint32, n int) uint32 {
	return bits.RotateLeft32(word, -n)
}
