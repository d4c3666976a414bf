// Package digest: SHA-256, as FIPS 180-4 has it.
package digest

import "math/bits"

const (
	blockSize  = 64
	lengthSize = 8 // bytes at the end of the last block that tell the length
	closing    = 0x80
)

// The first 32 bits of the fractional parts of the cube roots of the first 64 primes.
var roundWords = [64]uint32{
	0x428a2f98, 0x71374491, 0xb5c0fbcf, 0xe9b5dba5, 0x3956c25b, 0x59f111f1, 0x923f82a4, 0xab1c5ed5,
	0xd807aa98, 0x12835b01, 0x243185be, 0x550c7dc3, 0x72be5d74, 0x80deb1fe, 0x9bdc06a7, 0xc19bf174,
	0xe49b69c1, 0xefbe4786, 0x0fc19dc6, 0x240ca1cc, 0x2de92c6f, 0x4a7484aa, 0x5cb0a9dc, 0x76f988da,
	0x983e5152, 0xa831c66d, 0xb00327c8, 0xbf597fc7, 0xc6e00bf3, 0xd5a79147, 0x06ca6351, 0x14292967,
	0x27b70a85, 0x2e1b2138, 0x4d2c6dfc, 0x53380d13, 0x650a7354, 0x766a0abb, 0x81c2c92e, 0x92722c85,
	0xa2bfe8a1, 0xa81a664b, 0xc24b8b70, 0xc76c51a3, 0xd192e819, 0xd6990624, 0xf40e3585, 0x106aa070,
	0x19a4c116, 0x1e376c08, 0x2748774c, 0x34b0bcb5, 0x391c0cb3, 0x4ed8aa4a, 0x5b9cca4f, 0x682e6ff3,
	0x748f82ee, 0x78a5636f, 0x84c87814, 0x8cc70208, 0x90befffa, 0xa4506ceb, 0xbef9a3f7, 0xc67178f2,
}

// start has the first 32 bits of the fractional parts of the square roots of the first 8 primes.
func start() [8]uint32 {
	return [8]uint32{0x6a09e667, 0xbb67ae85, 0x3c6ef372, 0xa54ff53a, 0x510e527f, 0x9b05688c, 0x1f83d9ab, 0x5be0cd19}
}

// Sum tells the digest of b.
func Sum(b []byte) [32]byte {
	state := start()
	var block [blockSize]byte
	rest := b
	for len(rest) >= blockSize {
		rest = rest[copy(block[:], rest):]
		state = mix(state, block)
	}
	clear(block[:])
	used := copy(block[:], rest)
	block[used] = closing
	if used >= blockSize-lengthSize {
		// The length finds no room behind the text: it goes into a block of its own.
		state = mix(state, block)
		clear(block[:])
	}
	putLength(&block, len(b))
	return spell(mix(state, block))
}

func putLength(block *[blockSize]byte, length int) {
	n := uint64(length) * 8
	for at := blockSize - 1; at >= blockSize-lengthSize; at-- {
		block[at] = byte(n)
		n >>= 8
	}
}

func spell(state [8]uint32) [32]byte {
	var out [32]byte
	for i, w := range state {
		out[4*i], out[4*i+1], out[4*i+2], out[4*i+3] = byte(w>>24), byte(w>>16), byte(w>>8), byte(w)
	}
	return out
}

// mix tells the state behind one more block.
func mix(state [8]uint32, block [blockSize]byte) [8]uint32 {
	words := schedule(block)
	a, b, c, d, e, f, g, h := state[0], state[1], state[2], state[3], state[4], state[5], state[6], state[7]
	for i, w := range words {
		one := h + sumUpper(e) + (e&f ^ ^e&g) + roundWords[i] + w
		two := sumLower(a) + (a&b ^ a&c ^ b&c)
		a, b, c, d, e, f, g, h = one+two, a, b, c, d+one, e, f, g
	}
	for i, w := range [8]uint32{a, b, c, d, e, f, g, h} {
		state[i] += w
	}
	return state
}

// schedule stretches a block to one word for each round.
func schedule(block [blockSize]byte) [64]uint32 {
	var words [64]uint32
	for i := range 16 {
		words[i] = uint32(block[4*i])<<24 | uint32(block[4*i+1])<<16 | uint32(block[4*i+2])<<8 | uint32(block[4*i+3])
	}
	for i := 16; i < len(words); i++ {
		words[i] = words[i-16] + stretchEarly(words[i-15]) + words[i-7] + stretchLate(words[i-2])
	}
	return words
}

// right turns x right by n bits: the library turns left alone.
func right(x uint32, n int) uint32 { return bits.RotateLeft32(x, -n) }

func sumLower(x uint32) uint32 { return right(x, 2) ^ right(x, 13) ^ right(x, 22) }

func sumUpper(x uint32) uint32 { return right(x, 6) ^ right(x, 11) ^ right(x, 25) }

func stretchEarly(x uint32) uint32 { return right(x, 7) ^ right(x, 18) ^ x>>3 }

func stretchLate(x uint32) uint32 { return right(x, 17) ^ right(x, 19) ^ x>>10 }
