package sha_test

import (
	"encoding/hex"
	"strings"
	"testing"

	"parterre/api"
	"parterre/sha"
)

// manyDigests are some that differ early, late, by much and by little.
func manyDigests() []api.Digest {
	l := []api.Digest{zero, sha.Sum(), sha.Sum("abc")}
	for _, at := range []int{0, 1, 15, 30, 31} {
		for _, b := range []byte{1, 9, 10, 15, 16, 127, 128, 159, 160, 255} {
			d := zero
			d[at] = b
			l = append(l, d)
			for i := range d {
				d[i] |= 0x5a
			}
			l = append(l, d)
		}
	}
	for i := range 40 {
		l = append(l, sha.Sum(sample(i)))
	}
	return l
}

// P1.2: small letters, the highest half of each byte first.
func TestHex(t *testing.T) {
	d := zero
	for i := range d {
		d[i] = byte(i*16 + 15 - i%16)
	}
	if got := sha.Hex(d); got != "0f1e2d3c4b5a69788796a5b4c3d2e1f00f1e2d3c4b5a69788796a5b4c3d2e1f0" {
		t.Errorf("hex: %s", got)
	}
	if got := sha.Hex(zero); got != strings.Repeat("0", 64) {
		t.Errorf("hex of the zero digest: %s", got)
	}
	for _, d := range manyDigests() {
		if got := sha.Hex(d); got != hex.EncodeToString(d[:]) {
			t.Errorf("hex: %s, wanted %x", got, d)
		}
	}
}

// P1.2: Parse takes what Hex gives.
func TestParse(t *testing.T) {
	for _, d := range manyDigests() {
		got, ok := sha.Parse(sha.Hex(d))
		if !ok || got != d {
			t.Errorf("parse of hex: %x %t, wanted %x", got, ok, d)
		}
	}
	for b := range 256 {
		d := zero
		d[b%32] = byte(b)
		if got, ok := sha.Parse(sha.Hex(d)); !ok || got != d {
			t.Errorf("parse of hex: %x %t, wanted %x", got, ok, d)
		}
	}
}

func wantNoDigest(t *testing.T, s string) {
	t.Helper()
	if d, ok := sha.Parse(s); ok || d != zero {
		t.Errorf("parse of %q: %x %t, wanted a zero one, false", s, d, ok)
	}
}

// P1.2: a text of another length is no digest's.
func TestParseLengths(t *testing.T) {
	s := strings.Repeat("1f", 200)
	for n := range len(s) {
		if n != 64 {
			wantNoDigest(t, s[:n])
		}
	}
	good := sha.Hex(sha.Sum("abc"))
	for _, s := range []string{"BA", good[:63], good + "0", good + good, " " + good, good + "\n", "0x" + good, "0x" + good[2:]} {
		wantNoDigest(t, s)
	}
}

// P1.2: any other byte, anywhere, makes it none; capital letters too.
func TestParseBytes(t *testing.T) {
	good := []byte(sha.Hex(sha.Sum("abc")))
	for at := range good {
		for b := range 256 {
			s := append([]byte{}, good...)
			s[at] = byte(b)
			if strings.IndexByte("0123456789abcdef", byte(b)) < 0 {
				wantNoDigest(t, string(s))
			} else if d, ok := sha.Parse(string(s)); !ok || sha.Hex(d) != string(s) {
				t.Errorf("parse of %s: %x %t", s, d, ok)
			}
		}
	}
	wantNoDigest(t, strings.ToUpper(string(good)))
	wantNoDigest(t, strings.Repeat("é", 32))
}

// P1.2: the first byte that differs tells, wherever it is.
func TestLess(t *testing.T) {
	for at := range zero {
		low, high := sha.Sum("x"), sha.Sum("x")
		low[at], high[at] = 127, 128
		for i := at + 1; i < len(low); i++ {
			low[i], high[i] = 255, 0
		}
		if !sha.Less(low, high) || sha.Less(high, low) {
			t.Errorf("byte %d doesn't tell", at)
		}
	}
	for _, d := range manyDigests() {
		if sha.Less(d, d) {
			t.Errorf("%x stands ahead of itself", d)
		}
	}
}

// P1.3: hexes stand in the order of their digests.
func TestHexOrder(t *testing.T) {
	l := manyDigests()
	for _, a := range l {
		for _, b := range l {
			if sha.Less(a, b) != (sha.Hex(a) < sha.Hex(b)) {
				t.Errorf("%x and %x stand in another order than their hexes", a, b)
			}
		}
	}
}
