package wire_test

import (
	"math"
	"strings"
	"testing"

	"parterre/api"
	"parterre/wire"
)

// taker takes one thing; it tells it as a text, "" for a zero one.
type taker struct {
	name string
	take func(*wire.In) string
}

// takers are all calls that take, of things of which each is told from the zero one.
func takers() []taker {
	return []taker{
		{"byte", func(i *wire.In) string { return strings.Trim(string([]byte{i.Byte()}), "\x00") }},
		{"four", func(i *wire.In) string { return strings.TrimLeft(four(i.Four()), "\x00") }},
		{"eight", func(i *wire.In) string { return strings.TrimLeft(eight(i.Eight()), "\x00") }},
		{"text", func(i *wire.In) string { return i.Text(math.MaxInt) }},
		{"digest", func(i *wire.In) string { d := i.Digest(); return strings.Trim(string(d[:]), "\x00") }},
		{"count", func(i *wire.In) string { return strings.TrimLeft(four(uint32(i.Count(math.MaxInt))), "\x00") }},
		{"raw", func(i *wire.In) string { return i.Raw(5) }},
		{"rows", func(i *wire.In) string { return strings.Join(texts(i, math.MaxInt), "") }},
	}
}

// texts are a row of texts.
func texts(i *wire.In, most int) []string {
	return wire.Rows(i, most, func(i *wire.In) string { return i.Text(100) })
}

// wantIn: so many bytes are left, and that is the error.
func wantIn(t *testing.T, what string, i *wire.In, left int, e api.Errno) {
	t.Helper()
	want(t, what+": left", i.Left(), left)
	want(t, what+": error", i.Err(), e)
}

// P3.2: numbers are taken, the highest byte first, and what stands behind them is left.
func TestInNumbers(t *testing.T) {
	for n := range 256 {
		i := wire.Of(string([]byte{byte(n), 1}))
		want(t, "byte", i.Byte(), uint8(n))
		wantIn(t, "byte", i, 1, api.OK)
	}
	for _, n := range fourNumbers() {
		i := wire.Of(four(n) + "x")
		want(t, "four", i.Four(), n)
		wantIn(t, "four", i, 1, api.OK)
		i = wire.Of(four(n) + "xy")
		want(t, "count", i.Count(math.MaxInt), int(n))
		wantIn(t, "count", i, 2, api.OK)
	}
	for _, n := range eightNumbers() {
		i := wire.Of(eight(n) + "x")
		want(t, "eight", i.Eight(), n)
		wantIn(t, "eight", i, 1, api.OK)
	}
}

// P3.2: digests are taken whole.
func TestInDigest(t *testing.T) {
	d := digestOf(200)
	i := wire.Of(string(d[:]) + "x")
	want(t, "digest", i.Digest(), d)
	wantIn(t, "digest", i, 1, api.OK)
}

// P3.2: where the bytes end too early there is ErrShort, and nothing is taken.
func TestInShort(t *testing.T) {
	one := "\x00\x00\x00\x01"
	for _, c := range []struct {
		name  string
		whole string
		take  func(*wire.In) bool // is the answer zero?
	}{
		{"byte", "\x01", func(i *wire.In) bool { return i.Byte() == 0 }},
		{"four", "\x01\x02\x03\x04", func(i *wire.In) bool { return i.Four() == 0 }},
		{"eight", "\x01\x02\x03\x04\x05\x06\x07\x08", func(i *wire.In) bool { return i.Eight() == 0 }},
		{"digest", strings.Repeat("\x01", 32), func(i *wire.In) bool { return i.Digest() == api.Digest{} }},
		{"count", one, func(i *wire.In) bool { return i.Count(1) == 0 }},
		{"text's count", one, func(i *wire.In) bool { return i.Text(1) == "" }},
		{"rows' count", one, func(i *wire.In) bool { return texts(i, 1) == nil }},
		{"raw", "abc", func(i *wire.In) bool { return i.Raw(3) == "" }},
	} {
		for n := range len(c.whole) {
			i := wire.Of(c.whole[:n])
			want(t, c.name, c.take(i), true)
			wantIn(t, c.name, i, n, api.ErrShort)
			want(t, "end", i.End(), api.ErrShort)
		}
	}
}

// P3.2: texts of at most so many bytes.
func TestInText(t *testing.T) {
	for _, c := range []struct {
		bytes string
		most  int
		text  string
		left  int
		err   api.Errno
	}{
		{four(0), 0, "", 0, api.OK},
		{four(0) + "x", 9, "", 1, api.OK},
		{four(0) + "x", -1, "", 1, api.OK},
		{four(0) + "x", math.MinInt, "", 1, api.OK},
		{four(1) + "a", 1, "a", 0, api.OK},
		{four(2) + "abc", 2, "ab", 1, api.OK},
		{four(2) + "abc", math.MaxInt, "ab", 1, api.OK},
		{four(4) + "\x00\xff\n\x80z", 4, "\x00\xff\n\x80", 1, api.OK},
		{four(300) + strings.Repeat("q", 301), 300, strings.Repeat("q", 300), 1, api.OK},
		{four(2) + "abc", 1, "", 3, api.ErrLong},
		{four(1) + "abc", 0, "", 3, api.ErrLong},
		{four(1) + "abc", -1, "", 3, api.ErrLong},
		{four(1) + "abc", math.MinInt, "", 3, api.ErrLong},
		{four(3) + "ab", 3, "", 2, api.ErrShort},
		{four(3) + "ab", 2, "", 2, api.ErrLong},
		{four(3), 3, "", 0, api.ErrShort},
		{four(3), 2, "", 0, api.ErrLong},
		{four(math.MaxUint32) + "ab", math.MaxInt, "", 2, api.ErrShort},
		{four(math.MaxUint32) + "ab", -1, "", 2, api.ErrLong},
		{four(1<<31) + "ab", 1<<31 - 1, "", 2, api.ErrLong},
	} {
		i := wire.Of(c.bytes)
		want(t, "text", i.Text(c.most), c.text)
		wantIn(t, "text", i, c.left, c.err)
	}
}

// P3.2: a count is at most most, and is taken beside ErrMany.
func TestInCount(t *testing.T) {
	for _, c := range []struct {
		n     uint32
		most  int
		count int
		err   api.Errno
	}{
		{0, 0, 0, api.OK},
		{0, -1, 0, api.OK},
		{0, math.MinInt, 0, api.OK},
		{1, 1, 1, api.OK},
		{64, 64, 64, api.OK},
		{65, 64, 0, api.ErrMany},
		{1, 0, 0, api.ErrMany},
		{1, -1, 0, api.ErrMany},
		{1, -2, 0, api.ErrMany},
		{1, math.MinInt, 0, api.ErrMany},
		{math.MaxUint32, math.MaxUint32, math.MaxUint32, api.OK},
		{math.MaxUint32, math.MaxUint32 - 1, 0, api.ErrMany},
		{math.MaxUint32, -1, 0, api.ErrMany},
		{math.MaxUint32, math.MaxInt, math.MaxUint32, api.OK},
	} {
		i := wire.Of(four(c.n) + "xy")
		want(t, "count", i.Count(c.most), c.count)
		wantIn(t, "count", i, 2, c.err)
	}
}

// P3.2: bytes alone; of fewer than none ErrShort.
func TestInRaw(t *testing.T) {
	i := wire.Of("abc")
	want(t, "none", i.Raw(0), "")
	wantIn(t, "none", i, 3, api.OK)
	want(t, "some", i.Raw(2), "ab")
	want(t, "the last", i.Raw(1), "c")
	want(t, "none at the end", i.Raw(0), "")
	wantIn(t, "all", i, 0, api.OK)
	for _, n := range []int{-1, -3, math.MinInt, 4, math.MaxInt} {
		i := wire.Of("abc")
		want(t, "raw", i.Raw(n), "")
		wantIn(t, "raw", i, 3, api.ErrShort)
	}
	i = wire.Of("")
	want(t, "below none of nothing", i.Raw(-1), "")
	wantIn(t, "below none of nothing", i, 0, api.ErrShort)
}

// P3.2: with an error nothing is taken any more, all answers are zero, and it stays.
func TestInErrorStays(t *testing.T) {
	whole := four(1) + four(7) + "abcdefg" + strings.Repeat("\x01", 64)
	for _, c := range takers() {
		want(t, c.name+" without an error", c.take(wire.Of(whole)) != "" || c.name == "byte", true)
		i := wire.Of(whole)
		i.Fail(api.ErrKind)
		want(t, c.name, c.take(i), "")
		wantIn(t, c.name, i, len(whole), api.ErrKind)
		want(t, "end", i.End(), api.ErrKind)
	}
	for _, fail := range []func(*wire.In){
		func(i *wire.In) { i.Raw(1000) },
		func(i *wire.In) { i.Raw(-1) },
		func(i *wire.In) { i.Raw(4); i.Count(6) },
		func(i *wire.In) { i.Raw(4); i.Text(6) },
		func(i *wire.In) { i.Raw(8); i.Text(math.MaxInt) },
	} {
		i := wire.Of(whole)
		fail(i)
		e, left := i.Err(), i.Left()
		want(t, "an error", e != api.OK, true)
		for _, c := range takers() {
			want(t, c.name, c.take(i), "")
			i.Fail(api.ErrHead)
			wantIn(t, c.name, i, left, e)
			want(t, "end", i.End(), e)
		}
	}
}

// P3.2: Fail tells the error, if there is none; OK is none.
func TestInFail(t *testing.T) {
	i := wire.Of("ab")
	i.Fail(api.OK)
	wantIn(t, "OK", i, 2, api.OK)
	want(t, "byte", i.Byte(), 'a')
	i.Fail(api.ErrTurn)
	wantIn(t, "the first", i, 1, api.ErrTurn)
	i.Fail(api.ErrLoop)
	i.Fail(api.OK)
	wantIn(t, "the first still", i, 1, api.ErrTurn)
	want(t, "byte", i.Byte(), 0)
	i = wire.Of("ab")
	i.Fail(api.Errno(-7))
	wantIn(t, "any number", i, 2, api.Errno(-7))
}

// P3.2: End asks whether bytes are left; that it does changes nothing.
func TestInEnd(t *testing.T) {
	want(t, "of nothing", wire.Of("").End(), api.OK)
	i := wire.Of("ab")
	for left := 2; left > 0; left-- {
		want(t, "ahead", i.End(), api.ErrForm)
		want(t, "asked again", i.End(), api.ErrForm)
		wantIn(t, "ahead", i, left, api.OK)
		i.Byte()
	}
	want(t, "at the end", i.End(), api.OK)
	i.Byte()
	want(t, "beyond", i.End(), api.ErrShort)
}

// P3.2: of a nil In zero, ErrNil.
func TestInNil(t *testing.T) {
	var i *wire.In
	for _, c := range takers() {
		want(t, c.name, c.take(i), "")
	}
	want(t, "no raw", i.Raw(0), "")
	want(t, "raw below none", i.Raw(-1), "")
	i.Fail(api.ErrKind)
	wantIn(t, "nil", i, 0, api.ErrNil)
	want(t, "end", i.End(), api.ErrNil)
	want(t, "rows", len(texts(i, 9)), 0)
}
