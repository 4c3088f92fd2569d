package sha

import (
	"math/bits"

	"parterre/api"
)

const (
	blockSize = 64            // bytes that are hashed at a time
	lengthAt  = blockSize - 8 // where the text's length stands in the last block
)

// rounds are the constants of FIPS 180-4, section 4.2.2.
var rounds = [64]uint32{
	0x428a2f98, 0x71374491, 0xb5c0fbcf, 0xe9b5dba5, 0x3956c25b, 0x59f111f1, 0x923f82a4, 0xab1c5ed5,
	0xd807aa98, 0x12835b01, 0x243185be, 0x550c7dc3, 0x72be5d74, 0x80deb1fe, 0x9bdc06a7, 0xc19bf174,
	0xe49b69c1, 0xefbe4786, 0x0fc19dc6, 0x240ca1cc, 0x2de92c6f, 0x4a7484aa, 0x5cb0a9dc, 0x76f988da,
	0x983e5152, 0xa831c66d, 0xb00327c8, 0xbf597fc7, 0xc6e00bf3, 0xd5a79147, 0x06ca6351, 0x14292967,
	0x27b70a85, 0x2e1b2138, 0x4d2c6dfc, 0x53380d13, 0x650a7354, 0x766a0abb, 0x81c2c92e, 0x92722c85,
	0xa2bfe8a1, 0xa81a664b, 0xc24b8b70, 0xc76c51a3, 0xd192e819, 0xd6990624, 0xf40e3585, 0x106aa070,
	0x19a4c116, 0x1e376c08, 0x2748774c, 0x34b0bcb5, 0x391c0cb3, 0x4ed8aa4a, 0x5b9cca4f, 0x682e6ff3,
	0x748f82ee, 0x78a5636f, 0x84c87814, 0x8cc70208, 0x90befffa, 0xa4506ceb, 0xbef9a3f7, 0xc67178f2,
}

// hash keeps only what is left of the last block, so that parts needn't be joined.
type hash struct {
	state  [8]uint32
	block  [blockSize]byte // the first filled bytes of it are not hashed yet
	filled int
	length uint64 // bytes in all
}

func newHash() hash {
	return hash{state: [8]uint32{
		0x6a09e667, 0xbb67ae85, 0x3c6ef372, 0xa54ff53a, 0x510e527f, 0x9b05688c, 0x1f83d9ab, 0x5be0cd19,
	}}
}

func (h *hash) add(part string) {
	h.length += uint64(len(part))
	for len(part) > 0 {
		n := copy(h.block[h.filled:], part)
		h.filled += n
		part = part[n:]
		if h.filled == blockSize {
			h.compress()
		}
	}
}

func (h *hash) end() api.Digest {
	h.block[h.filled] = 0x80
	clear(h.block[h.filled+1:])
	if h.filled >= lengthAt {
		// The length finds no room behind the mark, so it has a block of its own.
		h.compress()
		clear(h.block[:])
	}
	for i := range 8 {
		h.block[lengthAt+i] = byte(h.length * 8 >> (56 - 8*i))
	}
	h.compress()
	var d api.Digest
	for i := range len(d) {
		d[i] = byte(h.state[i/4] >> (24 - 8*(i%4)))
	}
	return d
}

// schedule is step 1 of FIPS 180-4, section 6.2.2.
func (h *hash) schedule() [64]uint32 {
	var w [64]uint32
	for i := range 16 {
		b := h.block[4*i : 4*i+4]
		w[i] = uint32(b[0])<<24 | uint32(b[1])<<16 | uint32(b[2])<<8 | uint32(b[3])
	}
	for i := 16; i < 64; i++ {
		a, b := w[i-15], w[i-2]
		s0 := bits.RotateLeft32(a, -7) ^ bits.RotateLeft32(a, -18) ^ a>>3
		s1 := bits.RotateLeft32(b, -17) ^ bits.RotateLeft32(b, -19) ^ b>>10
		w[i] = s1 + w[i-7] + s0 + w[i-16]
	}
	return w
}

// compress is steps 2 to 4. It leaves the block empty, so that the next part begins at its first byte.
func (h *hash) compress() {
	words := h.schedule()
	s := &h.state
	a, b, c, d, e, f, g, k := s[0], s[1], s[2], s[3], s[4], s[5], s[6], s[7]
	for i := range 64 {
		t := k + rounds[i] + words[i] + (e&f ^ ^e&g)
		t += bits.RotateLeft32(e, -6) ^ bits.RotateLeft32(e, -11) ^ bits.RotateLeft32(e, -25)
		u := bits.RotateLeft32(a, -2) ^ bits.RotateLeft32(a, -13) ^ bits.RotateLeft32(a, -22)
		u += a&b ^ a&c ^ b&c
		a, b, c, d, e, f, g, k = t+u, a, b, c, d+t, e, f, g
	}
	for i, n := range [8]uint32{a, b, c, d, e, f, g, k} {
		s[i] += n
	}
	h.filled = 0
}
