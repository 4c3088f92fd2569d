package sha_test

import (
	"crypto/sha256"
	"slices"
	"strings"
	"testing"

	"parterre/api"
	"parterre/sha"
)

// zero is what stands beside a false.
var zero api.Digest

// sample is a text of n bytes, in which every value of a byte comes up in time.
func sample(n int) string {
	b := make([]byte, n)
	for i := range b {
		b[i] = byte(i*i*7 + i*89 + i/256 + 3)
	}
	return string(b)
}

// bytesOf cuts a text into parts of a byte each.
func bytesOf(s string) []string {
	var parts []string
	for i := range len(s) {
		parts = append(parts, s[i:i+1])
	}
	return parts
}

// P1.1: digests that FIPS 180-4's examples tell.
func TestSumKnown(t *testing.T) {
	alphabet := "abcdefghbcdefghicdefghijdefghijkefghijklfghijklmghijklmnhijklmnoijklmnopjklmnopqklmnopqrlmnopqrsmnopqrstnopqrstu"
	for _, c := range []struct{ text, hex string }{
		{"", "e3b0c44298fc1c149afbf4c8996fb92427ae41e4649b934ca495991b7852b855"},
		{"abc", "ba7816bf8f01cfea414140de5dae2223b00361a396177a9cb410ff61f20015ad"},
		{"abcdbcdecdefdefgefghfghighijhijkijkljklmklmnlmnomnopnopq", "248d6a61d20638b8e5c026930c3e6039a33ce45964ff2167f6ecedd419db06c1"},
		{alphabet, "cf5b16a778af8380036ce59e7b0492370b249b11e8f07a51afac45037afee9d1"},
		{strings.Repeat("a", 1000000), "cdc76e5c9914fb9281a1c7e284d73e67f1809a48a497200e046d39ccc7112cd0"},
	} {
		if got := sha.Hex(sha.Sum(c.text)); got != c.hex {
			t.Errorf("a text of %d bytes: %s, wanted %s", len(c.text), got, c.hex)
		}
	}
}

// P1.1: all lengths round the edges of blocks, 55, 56, 63 and 64 bytes among them.
func TestSumLengths(t *testing.T) {
	for n := range 400 {
		s := sample(n)
		if sha.Sum(s) != sha256.Sum256([]byte(s)) {
			t.Errorf("a text of %d bytes has another digest", n)
		}
	}
	for _, n := range []int{4095, 4096, 4097, 32768, 100003} {
		s := sample(n)
		if sha.Sum(s) != sha256.Sum256([]byte(s)) {
			t.Errorf("a text of %d bytes has another digest", n)
		}
	}
}

// P1.1: any bytes, those that are no letters too.
func TestSumBytes(t *testing.T) {
	for b := range 256 {
		for _, n := range []int{1, 55, 56, 64, 65} {
			s := strings.Repeat(string([]byte{byte(b)}), n)
			if sha.Sum(s) != sha256.Sum256([]byte(s)) {
				t.Errorf("%d bytes %d have another digest", n, b)
			}
		}
	}
}

// P1.1: the length in bits has more than 32 of them.
func TestSumLong(t *testing.T) {
	if testing.Short() {
		t.Skip("hashes half a gigabyte")
	}
	t.Parallel()
	part := sample(1 << 20)
	other := sha256.New()
	parts := make([]string, 513)
	for i := range parts {
		parts[i] = part
		other.Write([]byte(part))
	}
	if got := sha.Sum(parts...); string(got[:]) != string(other.Sum(nil)) {
		t.Error("a text of more than 2^32 bits has another digest")
	}
}

// P1.3: every cut into two and three parts, empty ones too.
func TestSumCuts(t *testing.T) {
	for _, n := range []int{0, 1, 2, 3, 55, 56, 57, 63, 64, 65, 127, 128, 129} {
		s := sample(n)
		whole := sha.Sum(s)
		for i := range n + 1 {
			if sha.Sum(s[:i], s[i:]) != whole || sha.Sum("", s[:i], "", "", s[i:], "") != whole {
				t.Errorf("%d bytes cut at %d have another digest", n, i)
			}
			for j := i; j <= n; j++ {
				if sha.Sum(s[:i], s[i:j], s[j:]) != whole {
					t.Errorf("%d bytes cut at %d and %d have another digest", n, i, j)
				}
			}
		}
	}
}

// P1.3: no parts, only empty ones, parts of one byte.
func TestSumParts(t *testing.T) {
	if sha.Sum() != sha.Sum("") || sha.Sum("", "", "") != sha.Sum("") || sha.Sum([]string{}...) != sha.Sum("") {
		t.Error("nothing has several digests")
	}
	for _, n := range []int{1, 55, 56, 63, 64, 65, 200, 1000} {
		s := sample(n)
		if sha.Sum(bytesOf(s)...) != sha.Sum(s) || sha.Short(bytesOf(s)...) != sha.Short(s) {
			t.Errorf("%d bytes, one by one, have another digest", n)
		}
	}
	if sha.Sum("ab", "c") == sha.Sum("c", "ab") {
		t.Error("the order of parts makes no difference")
	}
}

// P1.1: Short is the first eight bytes, the highest first.
func TestShort(t *testing.T) {
	if got := sha.Short("abc"); got != 0xba7816bf8f01cfea {
		t.Errorf("short of abc: %x", got)
	}
	if got := sha.Short(); got != 0xe3b0c44298fc1c14 {
		t.Errorf("short of nothing: %x", got)
	}
	for n := range 200 {
		s := sample(n)
		d := sha256.Sum256([]byte(s))
		got := sha.Short(s[:n/3], s[n/3:])
		for i := range 8 {
			if byte(got>>(56-8*i)) != d[i] {
				t.Errorf("short of %d bytes: %x, wanted the beginning of %x", n, got, d)
				break
			}
		}
	}
}

// What is handed in stays, and what is answered hangs on it alone.
func TestSumLeavesParts(t *testing.T) {
	room := []string{"a", "bc", "behind", "all"}
	first := sha.Sum(room[:2]...)
	sha.Sum(sample(77))
	sha.Short(room[:2]...)
	if !slices.Equal(room, []string{"a", "bc", "behind", "all"}) {
		t.Errorf("parts were changed: %q", room)
	}
	if sha.Sum(room[:2]...) != first || first != sha.Sum("abc") {
		t.Error("asked again there is another digest")
	}
}
