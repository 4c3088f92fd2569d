// Package sha is layer 1: SHA-256, as FIPS 180-4 has it, and digests as text.
package sha

import "parterre/api"

// Sum is the digest of the parts, one behind the other.
func Sum(parts ...string) api.Digest {
	h := newHash()
	for _, part := range parts {
		h.add(part)
	}
	return h.end()
}

// Short is the number that the first eight bytes of the sum are, the highest first.
func Short(parts ...string) uint64 {
	d := Sum(parts...)
	n := uint64(0)
	for _, b := range d[:8] {
		n = n<<8 | uint64(b)
	}
	return n
}
