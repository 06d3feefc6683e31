// Package digest hashes and tags bytes: SHA-256 (FIPS 180-4) and HMAC-SHA-256 (RFC 2104).
package digest

import "math/bits"

const (
	blockBytes  = 64
	lengthBytes = 8
)

// rounds are the constants of the 64 rounds, as FIPS 180-4 lists them.
var rounds = [64]uint32{
	0x428a2f98, 0x71374491, 0xb5c0fbcf, 0xe9b5dba5, 0x3956c25b, 0x59f111f1, 0x923f82a4, 0xab1c5ed5,
	0xd807aa98, 0x12835b01, 0x243185be, 0x550c7dc3, 0x72be5d74, 0x80deb1fe, 0x9bdc06a7, 0xc19bf174,
	0xe49b69c1, 0xefbe4786, 0x0fc19dc6, 0x240ca1cc, 0x2de92c6f, 0x4a7484aa, 0x5cb0a9dc, 0x76f988da,
	0x983e5152, 0xa831c66d, 0xb00327c8, 0xbf597fc7, 0xc6e00bf3, 0xd5a79147, 0x06ca6351, 0x14292967,
	0x27b70a85, 0x2e1b2138, 0x4d2c6dfc, 0x53380d13, 0x650a7354, 0x766a0abb, 0x81c2c92e, 0x92722c85,
	0xa2bfe8a1, 0xa81a664b, 0xc24b8b70, 0xc76c51a3, 0xd192e819, 0xd6990624, 0xf40e3585, 0x106aa070,
	0x19a4c116, 0x1e376c08, 0x2748774c, 0x34b0bcb5, 0x391c0cb3, 0x4ed8aa4a, 0x5b9cca4f, 0x682e6ff3,
	0x748f82ee, 0x78a5636f, 0x84c87814, 0x8cc70208, 0x90befffa, 0xa4506ceb, 0xbef9a3f7, 0xc67178f2,
}

// Sum is the hash of the parts, one behind the other. It takes parts so that
// long texts need not be joined, and so copied, to be hashed.
func Sum(parts ...string) string {
	h := newHasher()
	for _, part := range parts {
		h.write(part)
	}
	return h.finish()
}

// hasher is a hash on its way: what was mixed in, and what does not yet fill a block.
type hasher struct {
	state [8]uint32
	block [blockBytes]byte
	held  int
	total uint64
}

func newHasher() hasher {
	return hasher{state: [8]uint32{
		0x6a09e667, 0xbb67ae85, 0x3c6ef372, 0xa54ff53a, 0x510e527f, 0x9b05688c, 0x1f83d9ab, 0x5be0cd19,
	}}
}

func (h *hasher) write(text string) {
	h.total += uint64(len(text))
	for len(text) > 0 {
		n := copy(h.block[h.held:], text)
		text = text[n:]
		h.held += n
		if h.held == blockBytes {
			h.mix()
			h.held = 0
		}
	}
}

func (h *hasher) finish() string {
	h.write(h.padding())
	hash := make([]byte, 0, 4*len(h.state))
	for _, word := range h.state {
		hash = append(hash, byte(word>>24), byte(word>>16), byte(word>>8), byte(word))
	}
	return string(hash)
}

// padding fills the last block up: a one bit, zeros, and how many bits there were.
func (h *hasher) padding() string {
	last := blockBytes - lengthBytes - 1
	zeros := (last - h.held + blockBytes) % blockBytes
	pad := make([]byte, 1+zeros, 1+zeros+lengthBytes)
	pad[0] = 0x80
	length := h.total * 8
	for shift := 56; shift >= 0; shift -= 8 {
		pad = append(pad, byte(length>>shift))
	}
	return string(pad)
}

func (h *hasher) mix() {
	words := h.schedule()
	s := &h.state
	// The letters are those of FIPS 180-4; kept apart, they are much faster than an array.
	a, b, c, d, e, f, g, last := s[0], s[1], s[2], s[3], s[4], s[5], s[6], s[7]
	for i, word := range words {
		t1 := last + turn(e, 6, 11, 25) + (e&f ^ ^e&g) + rounds[i] + word
		t2 := turn(a, 2, 13, 22) + (a&b ^ a&c ^ b&c)
		a, b, c, d, e, f, g, last = t1+t2, a, b, c, d+t1, e, f, g
	}
	for i, word := range [8]uint32{a, b, c, d, e, f, g, last} {
		s[i] += word
	}
}

// schedule spreads the 16 words of the block over the 64 rounds.
func (h *hasher) schedule() [64]uint32 {
	var w [64]uint32
	for i := range 16 {
		b := h.block[4*i : 4*i+4]
		w[i] = uint32(b[0])<<24 | uint32(b[1])<<16 | uint32(b[2])<<8 | uint32(b[3])
	}
	for i := 16; i < 64; i++ {
		early := bits.RotateLeft32(w[i-15], -7) ^ bits.RotateLeft32(w[i-15], -18) ^ w[i-15]>>3
		late := bits.RotateLeft32(w[i-2], -17) ^ bits.RotateLeft32(w[i-2], -19) ^ w[i-2]>>10
		w[i] = w[i-16] + early + w[i-7] + late
	}
	return w
}

// turn is the exclusive or of a word turned right by three distances.
func turn(word uint32, a, b, c int) uint32 {
	return bits.RotateLeft32(word, -a) ^ bits.RotateLeft32(word, -b) ^ bits.RotateLeft32(word, -c)
}
