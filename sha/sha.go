// Package sha is layer 1, SHA-256: see shared/doc/01-sha.md.
package sha

import "math/bits"

// size is the bytes of a piece.
const size = 64

// constants are those of a piece's steps, in order.
var constants = [size]uint32{
	0x428a2f98, 0x71374491, 0xb5c0fbcf, 0xe9b5dba5, 0x3956c25b, 0x59f111f1, 0x923f82a4, 0xab1c5ed5,
	0xd807aa98, 0x12835b01, 0x243185be, 0x550c7dc3, 0x72be5d74, 0x80deb1fe, 0x9bdc06a7, 0xc19bf174,
	0xe49b69c1, 0xefbe4786, 0x0fc19dc6, 0x240ca1cc, 0x2de92c6f, 0x4a7484aa, 0x5cb0a9dc, 0x76f988da,
	0x983e5152, 0xa831c66d, 0xb00327c8, 0xbf597fc7, 0xc6e00bf3, 0xd5a79147, 0x06ca6351, 0x14292967,
	0x27b70a85, 0x2e1b2138, 0x4d2c6dfc, 0x53380d13, 0x650a7354, 0x766a0abb, 0x81c2c92e, 0x92722c85,
	0xa2bfe8a1, 0xa81a664b, 0xc24b8b70, 0xc76c51a3, 0xd192e819, 0xd6990624, 0xf40e3585, 0x106aa070,
	0x19a4c116, 0x1e376c08, 0x2748774c, 0x34b0bcb5, 0x391c0cb3, 0x4ed8aa4a, 0x5b9cca4f, 0x682e6ff3,
	0x748f82ee, 0x78a5636f, 0x84c87814, 0x8cc70208, 0x90befffa, 0xa4506ceb, 0xbef9a3f7, 0xc67178f2,
}

// Hash is bytes that are written, piece by piece.
type Hash struct {
	state [8]uint32  // it took in all whole pieces
	rest  [size]byte // begins with the bytes behind those
	count uint64     // of all bytes
}

// New is one of no bytes.
func New() *Hash {
	return &Hash{state: [8]uint32{
		0x6a09e667, 0xbb67ae85, 0x3c6ef372, 0xa54ff53a, 0x510e527f, 0x9b05688c, 0x1f83d9ab, 0x5be0cd19,
	}}
}

// Write puts bytes behind.
func (h *Hash) Write(b []byte) {
	if h == nil {
		return
	}
	for len(b) > 0 {
		at := int(h.count % size)
		n := copy(h.rest[at:], b)
		if at+n == size {
			h.state = takenIn(h.state, h.rest)
		}
		h.count += uint64(n)
		b = b[n:]
	}
}

// Sum is the digest so far.
func (h *Hash) Sum() [32]byte {
	if h == nil {
		return Sum(nil)
	}
	// The filling goes into a copy, for more may be written behind.
	filled := *h
	filled.Write(filling(h.count))
	return bytesOf(filled.state)
}

// Sum is the digest of bytes.
func Sum(b []byte) [32]byte {
	h := New()
	h.Write(b)
	return h.Sum()
}

// Hex is a digest's digits.
func Hex(d [32]byte) string {
	const digits = "0123456789abcdef"
	text := make([]byte, 0, 2*len(d))
	for _, x := range d {
		text = append(text, digits[x>>4], digits[x&15])
	}
	return string(text)
}

// filling is what is put behind so many bytes, for them to be filled.
func filling(count uint64) []byte {
	noughts := (size - (count+1+8)%size) % size
	fill := make([]byte, 1+noughts, 2*size)
	fill[0] = 128
	for i := range 8 {
		fill = append(fill, byte(8*count>>(56-8*i)))
	}
	return fill
}

// takenIn is a state that took in a piece.
func takenIn(state [8]uint32, piece [size]byte) [8]uint32 {
	numbers := numbersOf(piece)
	a, b, c, d, e, f, g, h := state[0], state[1], state[2], state[3], state[4], state[5], state[6], state[7]
	for i, w := range numbers {
		t := h + (turned(e, 6) ^ turned(e, 11) ^ turned(e, 25)) + (e&f ^ ^e&g) + constants[i] + w
		u := (turned(a, 2) ^ turned(a, 13) ^ turned(a, 22)) + (a&b ^ a&c ^ b&c)
		a, b, c, d, e, f, g, h = t+u, a, b, c, d+t, e, f, g
	}
	for i, n := range [8]uint32{a, b, c, d, e, f, g, h} {
		state[i] += n
	}
	return state
}

// numbersOf is a piece's 64 numbers.
func numbersOf(piece [size]byte) [size]uint32 {
	var w [size]uint32
	for i := range 16 {
		w[i] = uint32(piece[4*i])<<24 | uint32(piece[4*i+1])<<16 | uint32(piece[4*i+2])<<8 | uint32(piece[4*i+3])
	}
	for i := 16; i < size; i++ {
		x, y := w[i-15], w[i-2]
		x = turned(x, 7) ^ turned(x, 18) ^ x>>3
		y = turned(y, 17) ^ turned(y, 19) ^ y>>10
		w[i] = w[i-16] + x + w[i-7] + y
	}
	return w
}

// turned is a number whose bits go n places to the right, around.
func turned(x uint32, n int) uint32 { return bits.RotateLeft32(x, -n) }

// bytesOf is a state's numbers as bytes.
func bytesOf(state [8]uint32) [32]byte {
	var digest [32]byte
	at := 0
	put := func(n uint32) {
		for i := range 4 {
			digest[at+i] = byte(n >> (24 - 8*i))
		}
		at += 4
	}
	for _, n := range state {
		put(n)
	}
	return digest
}
