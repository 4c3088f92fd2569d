package name_test

import (
	"encoding/hex"
	"regexp"
	"slices"
	"strings"
	"testing"

	"parterre/api"
	"parterre/files"
	"parterre/name"
)

// want: a test fails, if something is another thing than was wanted.
func want[T comparable](t *testing.T, what string, got, wanted T) {
	t.Helper()
	if got != wanted {
		t.Errorf("%s: %v, wanted %v", what, got, wanted)
	}
}

// digests are of noughts, of the highest bytes, and of any.
func digests() []api.Digest {
	l := []api.Digest{{}, {1}, {31: 1}, {0: 0xf0, 31: 0x0f}}
	for n := range 40 {
		var d api.Digest
		for i := range d {
			d[i] = byte(n*i*7 + n + i*i)
		}
		l = append(l, d)
	}
	var high api.Digest
	for i := range high {
		high[i] = 0xff
	}
	return append(l, high)
}

// P7.1: the branch main.
func TestMainBranch(t *testing.T) {
	const is string = name.Main
	want(t, "main", is, "main")
	want(t, "main is a ref's name", name.Ref(name.Main), true)
}

// wantRef: it is a ref's name, or not, as is wanted; a name of a ref is a file's, too.
func wantRef(t *testing.T, s string, wanted bool) {
	t.Helper()
	if got := name.Ref(s); got != wanted {
		t.Errorf("ref %q: %t, wanted %t", s, got, wanted)
	}
	if wanted && !files.Named(s) {
		t.Errorf("%q is no name of a file", s)
	}
}

// P7.1, P7.2: names of refs, and texts that are none.
func TestRef(t *testing.T) {
	for _, s := range []string{"a", "z", "main", "a-1_b", "a0", "z9", "a-", "a_", "a--__", "m0123456789", "o", "p", "abcdefghijklmnopqrstuvwx", "zyx-_-_0987654321zyx-_-_"} {
		wantRef(t, s, true)
	}
	for _, s := range []string{
		"", "1a", "-a", "_a", "0", "9", "-", "_", "A", "Main", "mAin", "maiN", "MAIN", " main", "main ", "ma in", "main\n", "\nmain", "main\x00", "\x00", "a.b", "o.", ".", "a/b", "a+b", "a:b", "a`", "a{", "a@", "a[", "{a", "`a",
		"é", "aé", "a\xc3", "\xff", "a\xff", "aа", "a１", "ａ", "abcdefghijklmnopqrstuvwxy",
	} {
		wantRef(t, s, false)
	}
}

// P7.1: a name of a ref has from 1 to 24 bytes.
func TestRefLong(t *testing.T) {
	for n := range 300 {
		wantRef(t, strings.Repeat("a", n), n >= 1 && n <= 24)
		wantRef(t, "b"+strings.Repeat("-", n), n <= 23)
	}
	for _, n := range []int{1 << 16, 1<<16 + 4, 1 << 20} {
		wantRef(t, strings.Repeat("a", n), false)
	}
	wantRef(t, strings.Repeat("é", 12), false)
}

// P7.1, P7.2: each byte, as the first one, in the midst, as the last one of 2, of 24.
func TestRefBytes(t *testing.T) {
	first, more := "abcdefghijklmnopqrstuvwxyz", "abcdefghijklmnopqrstuvwxyz0123456789-_"
	for n := range 256 {
		b := string([]byte{byte(n)})
		begins, goes := strings.Contains(first, b), strings.Contains(more, b)
		wantRef(t, b, begins)
		wantRef(t, b+"a", begins)
		wantRef(t, b+strings.Repeat("0", 23), begins)
		wantRef(t, "a"+b, goes)
		wantRef(t, "a"+b+"a", goes)
		wantRef(t, strings.Repeat("z", 23)+b, goes)
		wantRef(t, strings.Repeat("z", 24)+b, false)
	}
}

// P7.1, P7.2: all texts of up to four of some bytes.
func TestRefAll(t *testing.T) {
	is := regexp.MustCompile(`\A[a-z][a-z0-9_-]{0,23}\z`)
	rows := []string{""}
	for range 4 {
		for _, s := range rows {
			wantRef(t, s, is.MatchString(s))
		}
		var longer []string
		for _, s := range rows {
			for _, b := range []string{"a", "z", "0", "9", "-", "_", "A", ".", " ", "\n", "\x80"} {
				longer = append(longer, s+b)
			}
		}
		rows = longer
	}
}

// P7.1: files of objects and of packs are named by the digest's text.
func TestFile(t *testing.T) {
	abc := api.Digest{0xba, 0x78, 0x16, 0xbf, 31: 0xad}
	want(t, "object", name.Object(abc), "o.ba7816bf"+strings.Repeat("0", 54)+"ad")
	want(t, "pack", name.Pack(abc), "p.ba7816bf"+strings.Repeat("0", 54)+"ad")
	for _, d := range digests() {
		want(t, "object", name.Object(d), "o."+hex.EncodeToString(d[:]))
		want(t, "pack", name.Pack(d), "p."+hex.EncodeToString(d[:]))
	}
}

// P7.2: each name is parsed as it was made, and is a file's.
func TestParse(t *testing.T) {
	for _, d := range digests() {
		k, got, ok := name.Parse(name.Object(d))
		want(t, "object", k == 'o' && got == d && ok, true)
		k, got, ok = name.Parse(name.Pack(d))
		want(t, "pack", k == 'p' && got == d && ok, true)
		want(t, "files' names", files.Named(name.Object(d)) && files.Named(name.Pack(d)), true)
		want(t, "a ref's name", name.Ref(name.Object(d)) || name.Ref(name.Pack(d)), false)
	}
}

// wantNone: it is no name of an object's file, or of a pack's, and is picked by no kind.
func wantNone(t *testing.T, s string) {
	t.Helper()
	k, d, ok := name.Parse(s)
	if k != 0 || d != (api.Digest{}) || ok {
		t.Errorf("parse of %q: %d, %v, %t, wanted 0, a zero one, false", s, k, d, ok)
	}
	for _, kind := range []byte{0, 'o', 'p'} {
		if l := name.Pick(kind, s); len(l) != 0 {
			t.Errorf("%q is picked by %d", s, kind)
		}
	}
}

// P7.1: texts that are nearly such a name.
func TestParseNone(t *testing.T) {
	text := strings.Repeat("0123456789abcdef", 4)
	for _, s := range []string{
		"", "o", "p", ".", "o.", "p.", "o. ", "main", text, "." + text, "o" + text, "p" + text, "op" + text, "op." + text, "o.p." + text, "o.o." + text, "o.." + text, "o.." + text[1:], "..", text + "o.", text + ".o",
		"O." + text, "P." + text, "q." + text, "n." + text, " ." + text, "\x00." + text, "t." + text, "\xef." + text, "ọ." + text, "o," + text, "o-" + text, "o:" + text, "o/" + text, "o " + text, "o\x00" + text, "o\xae" + text,
		" o." + text, "o." + text + " ", "o." + text + "\n", "o." + text + "\x00", "o. " + text, "o." + text + ".", "o.0x" + text, "o.0x" + text[2:], "o.+" + text[1:], "o.-" + text[1:],
		"o." + strings.ToUpper(text), "p." + strings.ToUpper(text), "o." + text[:63] + "F", "o.A" + text[1:], "o." + text[:63] + "g", "p." + text[:62] + "é",
	} {
		wantNone(t, s)
	}
}

// P7.1: the digest's text has 64 digits, not fewer, not more.
func TestParseLong(t *testing.T) {
	text := strings.Repeat("0123456789abcdef", 20)
	for n := range 200 {
		if n != 64 {
			wantNone(t, "o."+text[:n])
			wantNone(t, "p."+text[:n])
			wantNone(t, "o."+strings.Repeat("0", n))
		}
	}
	wantNone(t, "o."+strings.Repeat("0", 64+256))
	wantNone(t, "o."+strings.Repeat("0", 1<<16+64))
}

// P7.1: with any byte of it another one it is another name, or none.
func TestParseBytes(t *testing.T) {
	name0 := "o." + strings.Repeat("09af", 16)
	for at := range len(name0) {
		for n := range 256 {
			b := []byte(name0)
			b[at] = byte(n)
			digit := strings.IndexByte("0123456789abcdef", byte(n)) >= 0
			if at == 0 && n != 'o' && n != 'p' || at == 1 && n != '.' || at > 1 && !digit {
				wantNone(t, string(b))
				continue
			}
			k, d, ok := name.Parse(string(b))
			want(t, "parse", ok && k == b[0] && hex.EncodeToString(d[:]) == string(b[2:]), true)
		}
	}
}

// P7.1: the digests of a kind, in the order of the names, as often as they stand there.
func TestPick(t *testing.T) {
	a, b, c := api.Digest{9}, api.Digest{5}, api.Digest{}
	l := []string{name.Pack(c), "x", name.Object(a), name.Object(b), "", name.Pack(b), name.Object(c), strings.ToUpper(name.Object(c)), name.Object(a), "main", name.Object(a)[:65], name.Pack(a) + "0", name.Object(b)}
	before := slices.Clone(l)
	want(t, "objects", slices.Equal(name.Pick('o', l...), []api.Digest{a, b, c, a, b}), true)
	want(t, "packs", slices.Equal(name.Pick('p', l...), []api.Digest{c, b}), true)
	want(t, "names stay", slices.Equal(l, before), true)
	want(t, "of no names", len(name.Pick('o'))+len(name.Pick('p'))+len(name.Pick('o', nil...)), 0)
	want(t, "of none of that kind", len(name.Pick('o', name.Pack(a), name.Pack(b)))+len(name.Pick('p', name.Object(a))), 0)
}

// P7.1: no name is of another kind than o and p.
func TestPickKinds(t *testing.T) {
	d := api.Digest{1}
	l := []string{name.Object(d), name.Pack(d), "", "x", "main", "o.", "." + name.Object(d)[2:], "q" + name.Object(d)[1:], "O" + name.Object(d)[1:], "\x00" + name.Object(d)[1:], "\xff" + name.Pack(d)[1:]}
	for kind := range 256 {
		n := 0
		if kind == 'o' || kind == 'p' {
			n = 1
		}
		want(t, "picked", len(name.Pick(byte(kind), l...)), n)
	}
}

// What is answered is new memory.
func TestPickMemory(t *testing.T) {
	l := []string{name.Object(api.Digest{1}), name.Object(api.Digest{2})}
	got := name.Pick('o', l...)
	got[0][0], got[1][0] = 7, 8
	want(t, "again", slices.Equal(name.Pick('o', l...), []api.Digest{{1}, {2}}), true)
}
