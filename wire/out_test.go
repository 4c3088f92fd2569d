package wire_test

import (
	"encoding/binary"
	"math"
	"slices"
	"strconv"
	"strings"
	"testing"

	"parterre/api"
	"parterre/wire"
)

// want: a test fails, if something is another thing than was wanted.
func want[T comparable](t *testing.T, what string, got, wanted T) {
	t.Helper()
	if got != wanted {
		t.Errorf("%s: %v, wanted %v", what, got, wanted)
	}
}

func wantBytes(t *testing.T, what string, o wire.Out, wanted string) {
	t.Helper()
	if got := o.String(); got != wanted {
		t.Errorf("%s: % x, wanted % x", what, got, wanted)
	}
}

// four and eight are numbers' bytes, told by other means than the program's.
func four(n uint32) string  { return string(binary.BigEndian.AppendUint32(nil, n)) }
func eight(n uint64) string { return string(binary.BigEndian.AppendUint64(nil, n)) }

// digestOf is one whose bytes all differ.
func digestOf(n byte) api.Digest {
	var d api.Digest
	for i := range d {
		d[i] = n + byte(i)
	}
	return d
}

func fourNumbers() []uint32 {
	return []uint32{0, 1, 127, 128, 255, 256, 258, 65535, 65536, 1<<24 - 1, 1 << 24, 0x01020304, 1<<31 - 1, 1 << 31, 0xfefdfcfb, math.MaxUint32}
}

func eightNumbers() []uint64 {
	l := []uint64{0x0102030405060708, 0xfefdfcfbfaf9f8f7, 1<<63 - 1, 1 << 63, math.MaxUint64, 1 << 32, 1<<32 - 1}
	for _, n := range fourNumbers() {
		l = append(l, uint64(n), uint64(n)<<20, uint64(n)<<32)
	}
	return l
}

// P3.1: at first there is nothing.
func TestOutEmpty(t *testing.T) {
	wantBytes(t, "nothing", wire.Out{}, "")
	wantBytes(t, "no things", wire.Out{}.Four().Eight().Text().Digest().Raw(), "")
	wantBytes(t, "no things behind a byte", wire.Out{}.Byte(9).Four().Eight().Text().Digest().Raw(), "\x09")
}

// P3.1: the chapter's example.
func TestOutExample(t *testing.T) {
	wantBytes(t, "the example", wire.Out{}.Four(258).Text("a"), "\x00\x00\x01\x02\x00\x00\x00\x01\x61")
}

// P3.1: numbers, the highest byte first, one by one and several behind one another.
func TestOutNumbers(t *testing.T) {
	for n := range 256 {
		wantBytes(t, "a byte", wire.Out{}.Byte(uint8(n)), string([]byte{byte(n)}))
	}
	all := ""
	for _, n := range fourNumbers() {
		wantBytes(t, "four", wire.Out{}.Four(n), four(n))
		all += four(n)
	}
	wantBytes(t, "fours", wire.Out{}.Four(fourNumbers()...), all)
	all = ""
	for _, n := range eightNumbers() {
		wantBytes(t, "eight", wire.Out{}.Eight(n), eight(n))
		all += eight(n)
	}
	wantBytes(t, "eights", wire.Out{}.Eight(eightNumbers()...), all)
}

// P3.1: texts have their length ahead, raw ones don't; both may be of any bytes.
func TestOutTexts(t *testing.T) {
	all, raw := "", ""
	l := []string{"", "a", "hi", "\x00", "\xff\xfe\x00\x80", "größer", strings.Repeat("x", 255), strings.Repeat("y", 256), strings.Repeat("z", 70000)}
	for _, s := range l {
		wantBytes(t, "text", wire.Out{}.Text(s), four(uint32(len(s)))+s)
		wantBytes(t, "raw", wire.Out{}.Raw(s), s)
		all += four(uint32(len(s))) + s
		raw += s
	}
	wantBytes(t, "texts", wire.Out{}.Text(l...), all)
	wantBytes(t, "raws", wire.Out{}.Raw(l...), raw)
}

// P3.1: digests are their 32 bytes.
func TestOutDigests(t *testing.T) {
	a, b := digestOf(1), digestOf(200)
	wantBytes(t, "digest", wire.Out{}.Digest(a), string(a[:]))
	wantBytes(t, "zero digest", wire.Out{}.Digest(api.Digest{}), strings.Repeat("\x00", 32))
	wantBytes(t, "digests", wire.Out{}.Digest(a, b, a), string(a[:])+string(b[:])+string(a[:]))
}

// P3.1: each call answers an Out with the things behind what there was.
func TestOutBehind(t *testing.T) {
	d := digestOf(7)
	o := wire.Out{}.Text("t").Byte(1).Digest(d).Raw("r").Eight(2).Four(3).Text("u")
	wantBytes(t, "all", o, four(1)+"t\x01"+string(d[:])+"r"+eight(2)+four(3)+four(1)+"u")
}

// grown are an Out of n bytes laid one by one, and these bytes.
func grown(n int) (wire.Out, string) {
	o, s := wire.Out{}, ""
	for i := range n {
		o = o.Byte(byte(i))
		s += string([]byte{byte(i)})
	}
	return o, s
}

// P3.1: the Out that a call is made of stays, and so do others that were made of it, however long they are.
func TestOutStays(t *testing.T) {
	d := digestOf(3)
	for n := range 70 {
		o, s := grown(n)
		l := []wire.Out{o.Byte(1), o.Four(2), o.Eight(3), o.Text("t"), o.Digest(d), o.Raw("r"), o.Raw(), row(o, "x"), o.Byte(200)}
		wanted := []string{"\x01", four(2), eight(3), four(1) + "t", string(d[:]), "r", "", four(1) + four(1) + "x", "\xc8"}
		for i := range l {
			l[i].Raw("lost")
			l[i].Eight(math.MaxUint64)
		}
		for i := range l {
			wantBytes(t, "behind "+strconv.Itoa(n), l[i], s+wanted[i])
		}
		wantBytes(t, "ahead", o, s)
		wantBytes(t, "asked again", o, s)
	}
}

// row is a row of texts.
func row(o wire.Out, l ...string) wire.Out {
	return wire.Row(o, l, func(o wire.Out, s string) wire.Out { return o.Text(s) })
}

// P3.1: a row is how many things it has, and they, each laid by lay.
func TestRow(t *testing.T) {
	wantBytes(t, "no row", wire.Row(wire.Out{}, nil, wire.Out.Byte), four(0))
	wantBytes(t, "of none", wire.Row(wire.Out{}, []uint8{}, wire.Out.Byte), four(0))
	wantBytes(t, "of one", wire.Row(wire.Out{}, []uint8{7}, wire.Out.Byte), four(1)+"\x07")
	wantBytes(t, "behind", row(wire.Out{}.Byte(9), "a", "", "bc"), "\x09"+four(3)+four(1)+"a"+four(0)+four(2)+"bc")
	wantBytes(t, "of nothing laid", wire.Row(wire.Out{}, []int{1, 2, 3}, func(o wire.Out, n int) wire.Out { return o }), four(3))
	rows := wire.Row(wire.Out{}, [][]string{{"a"}, nil, {"b", "c"}}, func(o wire.Out, l []string) wire.Out { return row(o, l...) })
	wantBytes(t, "of rows", rows, four(3)+four(1)+four(1)+"a"+four(0)+four(2)+four(1)+"b"+four(1)+"c")
}

// P3.1: a row of many things, of more than a byte tells.
func TestRowLong(t *testing.T) {
	l, wanted := make([]uint32, 200000), binary.BigEndian.AppendUint32(nil, 200000)
	for i := range l {
		l[i] = uint32(i * 31)
		wanted = binary.BigEndian.AppendUint32(wanted, l[i])
	}
	o := wire.Row(wire.Out{}, l, func(o wire.Out, n uint32) wire.Out { return o.Four(n) })
	want(t, "a long row", o.String() == string(wanted), true)
}

// What is handed in is neither changed, nor kept.
func TestOutMemory(t *testing.T) {
	fours, eights, texts, digests := []uint32{1, 2, 3}, []uint64{1, 2, 3}, []string{"a", "b", "c"}, []api.Digest{digestOf(1), digestOf(2), digestOf(3)}
	o := wire.Out{}.Four(fours[:2]...).Eight(eights[:2]...).Text(texts[:2]...).Raw(texts[:2]...).Digest(digests[:2]...)
	o = row(o, texts[:2]...)
	before := o.String()
	want(t, "fours", slices.Equal(fours, []uint32{1, 2, 3}), true)
	want(t, "eights", slices.Equal(eights, []uint64{1, 2, 3}), true)
	want(t, "texts", slices.Equal(texts, []string{"a", "b", "c"}), true)
	want(t, "digests", slices.Equal(digests, []api.Digest{digestOf(1), digestOf(2), digestOf(3)}), true)
	fours[0], eights[0], texts[0], digests[0] = 9, 9, "z", digestOf(9)
	wantBytes(t, "kept", o, before)
}
