package sha

import (
	"bytes"
	"strings"

	"parterre/api"
)

// digits are those of base sixteen.
const digits = "0123456789abcdef"

// Hex is the digest's text: 64 digits, the highest half of each byte first.
func Hex(d api.Digest) string {
	text := make([]byte, 0, 2*len(d))
	for _, b := range d {
		text = append(text, digits[b>>4], digits[b&15])
	}
	return string(text)
}

// Parse is the digest of which Hex is s.
func Parse(s string) (api.Digest, bool) {
	var d api.Digest
	if len(s) != 2*len(d) {
		return api.Digest{}, false
	}
	for i := range len(s) {
		half := strings.IndexByte(digits, s[i])
		if half < 0 {
			return api.Digest{}, false
		}
		d[i/2] = d[i/2]<<4 | byte(half)
	}
	return d, true
}

// Less tells whether a stands ahead of b, byte by byte.
func Less(a, b api.Digest) bool {
	return bytes.Compare(a[:], b[:]) < 0
}
