package digest

import (
	"math/bits"

	"dialtone/api"
)

// blockSize is the number of bytes that SHA-256 works on at once, and lengthSize
// that of the bytes at the end of the last block which say the length.
const (
	blockSize  = 64
	lengthSize = 8
)

// rounds is the number of rounds for each block.
const rounds = 64

// roundWords are the words k(0) to k(63) of SHA-256.
var roundWords = [rounds]uint32{
	0x428a2f98, 0x71374491, 0xb5c0fbcf, 0xe9b5dba5, 0x3956c25b, 0x59f111f1, 0x923f82a4, 0xab1c5ed5,
	0xd807aa98, 0x12835b01, 0x243185be, 0x550c7dc3, 0x72be5d74, 0x80deb1fe, 0x9bdc06a7, 0xc19bf174,
	0xe49b69c1, 0xefbe4786, 0x0fc19dc6, 0x240ca1cc, 0x2de92c6f, 0x4a7484aa, 0x5cb0a9dc, 0x76f988da,
	0x983e5152, 0xa831c66d, 0xb00327c8, 0xbf597fc7, 0xc6e00bf3, 0xd5a79147, 0x06ca6351, 0x14292967,
	0x27b70a85, 0x2e1b2138, 0x4d2c6dfc, 0x53380d13, 0x650a7354, 0x766a0abb, 0x81c2c92e, 0x92722c85,
	0xa2bfe8a1, 0xa81a664b, 0xc24b8b70, 0xc76c51a3, 0xd192e819, 0xd6990624, 0xf40e3585, 0x106aa070,
	0x19a4c116, 0x1e376c08, 0x2748774c, 0x34b0bcb5, 0x391c0cb3, 0x4ed8aa4a, 0x5b9cca4f, 0x682e6ff3,
	0x748f82ee, 0x78a5636f, 0x84c87814, 0x8cc70208, 0x90befffa, 0xa4506ceb, 0xbef9a3f7, 0xc67178f2,
}

// sumOf returns the digest of the parts, one after the other.
func sumOf(parts ...string) string {
	state := [8]uint32{
		0x6a09e667, 0xbb67ae85, 0x3c6ef372, 0xa54ff53a, 0x510e527f, 0x9b05688c, 0x1f83d9ab, 0x5be0cd19,
	}
	length := 0
	for _, part := range parts {
		length += len(part)
	}
	for block := range blocks(append(parts, padding(length))...) {
		state = compress(state, block)
	}
	sum := make([]byte, 0, api.DigestSize)
	for _, word := range state {
		sum = append(sum, byte(word>>24), byte(word>>16), byte(word>>8), byte(word))
	}
	return string(sum)
}

// padding returns what a string of that many bytes is extended by: the byte 128,
// zero bytes up to the end of a block but for the length, and the number of bits.
func padding(length int) string {
	zeros := (2*blockSize - lengthSize - 1 - length%blockSize) % blockSize
	var pad [blockSize + lengthSize]byte
	pad[0] = 128
	for i := range lengthSize {
		pad[1+zeros+i] = byte(8 * uint64(length) >> (8 * (lengthSize - 1 - i)))
	}
	return string(pad[:1+zeros+lengthSize])
}

// blocks ranges over the blocks of the parts, one after the other; bytes at the
// end that do not fill a block are left out.
func blocks(parts ...string) func(yield func(block [blockSize]byte) bool) {
	return func(yield func(block [blockSize]byte) bool) {
		var block [blockSize]byte
		filled := 0
	nextPart:
		for _, part := range parts {
			for {
				count := copy(block[filled:], part)
				part = part[count:]
				filled += count
				if filled < blockSize {
					continue nextPart
				}
				if !yield(block) {
					return
				}
				filled = 0
			}
		}
	}
}

// compress returns what the state becomes by one block.
func compress(state [8]uint32, block [blockSize]byte) [8]uint32 {
	w := schedule(block)
	a, b, c, d := state[0], state[1], state[2], state[3]
	e, f, g, h := state[4], state[5], state[6], state[7]
	for i := range rounds {
		t := h + (right(e, 6) ^ right(e, 11) ^ right(e, 25)) + (e&f ^ ^e&g) + roundWords[i] + w[i]
		u := (right(a, 2) ^ right(a, 13) ^ right(a, 22)) + (a&b ^ a&c ^ b&c)
		a, b, c, d, e, f, g, h = t+u, a, b, c, d+t, e, f, g
	}
	return [8]uint32{
		state[0] + a, state[1] + b, state[2] + c, state[3] + d,
		state[4] + e, state[5] + f, state[6] + g, state[7] + h,
	}
}

// schedule returns the words w(0) to w(63) of a block.
func schedule(block [blockSize]byte) [rounds]uint32 {
	var w [rounds]uint32
	for i := range w {
		if i < blockSize/4 {
			w[i] = uint32(block[4*i])<<24 | uint32(block[4*i+1])<<16 | uint32(block[4*i+2])<<8 | uint32(block[4*i+3])
			continue
		}
		x := right(w[i-15], 7) ^ right(w[i-15], 18) ^ w[i-15]>>3
		y := right(w[i-2], 17) ^ right(w[i-2], 19) ^ w[i-2]>>10
		w[i] = w[i-16] + x + w[i-7] + y
	}
	return w
}

// right returns the word rotated right by that many bits.
func right(word uint32, by int) uint32 {
	return bits.RotateLeft32(word, -by)
}
