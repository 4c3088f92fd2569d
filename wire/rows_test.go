package wire_test

import (
	"math"
	"slices"
	"strings"
	"testing"

	"parterre/api"
	"parterre/wire"
)

// P3.2: a row of at most so many things.
func TestRows(t *testing.T) {
	bytes := row(wire.Out{}, "a", "", "bc").String()
	for _, c := range []struct {
		bytes  string
		most   int
		wanted []string
		left   int
		err    api.Errno
	}{
		{four(0), 0, nil, 0, api.OK},
		{four(0) + "x", -5, nil, 1, api.OK},
		{four(1) + four(1) + "a", 1, []string{"a"}, 0, api.OK},
		{bytes, 3, []string{"a", "", "bc"}, 0, api.OK},
		{bytes + "x", math.MaxInt, []string{"a", "", "bc"}, 1, api.OK},
		{bytes, 2, nil, len(bytes) - 4, api.ErrMany},
		{bytes, 0, nil, len(bytes) - 4, api.ErrMany},
		{bytes, -1, nil, len(bytes) - 4, api.ErrMany},
		{bytes[:len(bytes)-1], 3, nil, 1, api.ErrShort},
		{bytes[:9], 3, nil, 0, api.ErrShort},
		{four(math.MaxUint32), math.MaxInt, nil, 0, api.ErrShort},
		{four(math.MaxUint32) + four(1) + "a", math.MaxInt, nil, 0, api.ErrShort},
		{four(2) + four(0) + four(101) + strings.Repeat("a", 101), 2, nil, 101, api.ErrLong},
	} {
		i := wire.Of(c.bytes)
		got := texts(i, c.most)
		want(t, "rows", slices.Equal(got, c.wanted), true)
		wantIn(t, "rows", i, c.left, c.err)
	}
}

// P3.2: things are taken one by one, till one has an error, and none behind it.
func TestRowsTill(t *testing.T) {
	bytes := four(5) + "abcde"
	for till := range 6 {
		i, calls := wire.Of(bytes), 0
		got := wire.Rows(i, 5, func(i *wire.In) uint8 {
			if calls == till {
				i.Fail(api.ErrKind)
			}
			calls++
			return i.Byte() + 1
		})
		if till == 5 {
			want(t, "all", string(got), "bcdef")
			wantIn(t, "all", i, 0, api.OK)
			want(t, "calls", calls, 5)
			continue
		}
		want(t, "things", len(got), 0)
		wantIn(t, "some", i, 5-till, api.ErrKind)
		want(t, "calls", calls, till+1)
	}
}

// P3.2: with an error ahead, in the count, or of a nil In nothing is taken.
func TestRowsNothing(t *testing.T) {
	failed := wire.Of(four(1) + "a")
	failed.Fail(api.ErrLoop)
	for _, i := range []*wire.In{nil, failed, wire.Of(four(2) + "ab"), wire.Of("\x00\x00\x00"), wire.Of(four(0) + "a")} {
		got := wire.Rows(i, 1, func(i *wire.In) uint8 {
			t.Error("something is taken")
			return 1
		})
		want(t, "things", len(got), 0)
	}
}

// P3.2: things that take nothing, and rows of rows.
func TestRowsOfAny(t *testing.T) {
	i := wire.Of(four(3) + "x")
	n := 0
	got := wire.Rows(i, 3, func(*wire.In) int { n++; return n })
	want(t, "of nothing", slices.Equal(got, []int{1, 2, 3}), true)
	wantIn(t, "of nothing", i, 1, api.OK)
	i = wire.Of(four(2) + four(2) + "ab" + four(1) + "c")
	rows := wire.Rows(i, 2, func(i *wire.In) string { return string(wire.Rows(i, 2, (*wire.In).Byte)) })
	want(t, "of rows", slices.Equal(rows, []string{"ab", "c"}), true)
	i = wire.Of(four(2) + four(1) + "a" + four(3) + "cde")
	rows = wire.Rows(i, 2, func(i *wire.In) string { return string(wire.Rows(i, 2, (*wire.In).Byte)) })
	want(t, "of rows", len(rows), 0)
	wantIn(t, "of rows", i, 3, api.ErrMany)
}

// thing is one that was laid, of one of seven kinds.
type thing struct {
	kind   int
	n      uint64
	text   string
	digest api.Digest
}

func layThing(o wire.Out, x thing) wire.Out {
	switch x.kind {
	case 0:
		return o.Byte(uint8(x.n))
	case 1:
		return o.Four(uint32(x.n))
	case 2:
		return o.Eight(x.n)
	case 3:
		return o.Text(x.text)
	case 4:
		return o.Digest(x.digest)
	case 5:
		return o.Raw(x.text)
	}
	return row(o, x.text, "", x.text)
}

// taken: is that what stands next?
func (x thing) taken(i *wire.In) bool {
	switch x.kind {
	case 0:
		return i.Byte() == uint8(x.n)
	case 1:
		return i.Four() == uint32(x.n)
	case 2:
		return i.Eight() == x.n
	case 3:
		return i.Text(len(x.text)) == x.text
	case 4:
		return i.Digest() == x.digest
	case 5:
		return i.Raw(len(x.text)) == x.text
	}
	return slices.Equal(texts(i, 3), []string{x.text, "", x.text})
}

// things are many, of all kinds, one way each.
func things(seed uint64, n int) []thing {
	var l []thing
	for range n {
		seed = seed*6364136223846793005 + 1442695040888963407
		m := seed ^ seed>>29
		text := strings.Repeat(string([]byte{byte(m), byte(m >> 8)}), int(m>>16%40))
		l = append(l, thing{kind: int(m >> 40 % 7), n: m >> (m >> 50 % 64), text: text, digest: digestOf(byte(m >> 24))})
	}
	return l
}

// P3.3: what is laid is taken as it was, one behind the other; and cut off anywhere it isn't.
func TestLaidIsTaken(t *testing.T) {
	for seed := range uint64(300) {
		l := things(seed, int(seed%40))
		o := wire.Out{}
		for _, x := range l {
			o = layThing(o, x)
		}
		bytes := o.String()
		i := wire.Of(bytes)
		for at, x := range l {
			if !x.taken(i) {
				t.Fatalf("seed %d: thing %d (kind %d) is taken as another one", seed, at, x.kind)
			}
		}
		want(t, "end", i.End(), api.OK)
		if bytes == "" {
			continue
		}
		i = wire.Of(bytes[:len(bytes)-1])
		for _, x := range l {
			x.taken(i)
		}
		want(t, "cut off", i.End(), api.ErrShort)
	}
}

// P3.3: an In goes its own way, whatever another one of the same bytes does.
func TestInsApart(t *testing.T) {
	bytes := wire.Out{}.Four(1, 2, 3).String()
	a, b := wire.Of(bytes), wire.Of(bytes)
	want(t, "a", a.Four(), 1)
	a.Fail(api.ErrKind)
	for n := range uint32(3) {
		want(t, "b", b.Four(), n+1)
	}
	wantIn(t, "a", a, 8, api.ErrKind)
	wantIn(t, "b", b, 0, api.OK)
}
