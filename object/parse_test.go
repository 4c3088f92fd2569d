package object_test

import (
	"slices"
	"strings"
	"testing"

	"parterre/api"
	"parterre/object"
)

// P12.1: the bytes of some, told out.
func TestBytesToldOut(t *testing.T) {
	noughts := strings.Repeat("\x00", 8)
	digest := strings.Repeat("\x00", 32)
	for _, c := range []struct {
		what   string
		o      object.Object
		wanted string
	}{
		{"the empty map", object.Map(api.Map{}), "m" + noughts},
		{"a vertex", object.Map(mapOf(row{0x010203}, nil, nil)), "m\x00\x00\x00\x01\x00\x01\x02\x03" + noughts},
		{"an edge", object.Map(mapOf(row{1, 2}, edges{edge(0x0f0e0d, 2, 1)}, row{0x1e1c1b}, row{0x1e1c1a})), "m\x00\x00\x00\x02\x00\x00\x00\x01\x00\x00\x00\x02\x00\x00\x00\x01\x00\x0f\x0e\x0d\x00\x00\x00\x02\x00\x00\x00\x01\x00\x00\x00\x01\x00\x1e\x1c\x1b\x00\x00\x00\x01\x00\x1e\x1c\x1a"},
		{"the zero commit", object.Commit(api.Commit{}), "c" + digest + noughts + noughts},
		{"a commit", object.Commit(api.Commit{Parents: []api.Digest{{}}, Number: 0x0102030405060708, Text: "hi"}), "c" + digest + "\x00\x00\x00\x01" + digest + "\x01\x02\x03\x04\x05\x06\x07\x08\x00\x00\x00\x02hi"},
		{"the zero tag", object.Tag(api.Tag{}), "t" + digest + "\x00\x00\x00\x00"},
		{"a tag", object.Tag(api.Tag{Text: "hi"}), "t" + digest + "\x00\x00\x00\x02hi"},
	} {
		s, e := c.o.Bytes()
		want(t, c.what, s, c.wanted)
		want(t, c.what, e, api.OK)
	}
}

// P12.1, P12.3: all that may be is written as told, and read as it was; what isn't of the kind is neither.
func TestBack(t *testing.T) {
	for _, o := range objects() {
		s, e := o.Bytes()
		want(t, "bytes", s, bytesOf(o))
		want(t, "bytes", e, api.OK)
		back, e := object.Parse(s)
		want(t, "parse", e, api.OK)
		wantObject(t, "back", back, o)
		want(t, "back", object.Same(back, o), true)
		more := object.Object{Kind: o.Kind, Map: ring(), Commit: commitOf(77, "hi", 1), Tag: api.Tag{At: digestOf(3)}}
		switch o.Kind {
		case 'm':
			more.Map = o.Map
		case 'c':
			more.Commit = o.Commit
		case 't':
			more.Tag = o.Tag
		}
		again, _ := more.Bytes()
		want(t, "what isn't of the kind", again, s)
	}
}

// P12.2: bytes that end too early at each place, or have one too many.
func TestParseShort(t *testing.T) {
	for _, o := range objects() {
		s, _ := o.Bytes()
		for n := range len(s) {
			if _, e := object.Parse(s[:n]); e != api.ErrShort {
				t.Fatalf("%d of %d bytes: %v", n, len(s), e)
			}
		}
		for b := range 256 {
			if _, e := object.Parse(s + string([]byte{byte(b)})); e != api.ErrForm {
				t.Fatalf("a byte more: %v", e)
			}
		}
	}
	wantParse(t, "none", "", api.ErrShort)
}

// P12.2: kinds that are none, whatever stands behind.
func TestParseKind(t *testing.T) {
	for b := range 256 {
		kind := string([]byte{byte(b)})
		wanted := api.ErrKind
		if strings.Contains("mct", kind) {
			wanted = api.ErrShort
		}
		wantParse(t, "a kind alone", kind, wanted)
		if wanted == api.ErrKind {
			for _, o := range objects()[:12] {
				wantParse(t, "no kind", kind+bytesOf(o)[1:], api.ErrKind)
			}
		}
	}
}

// rowOf is a count and so many fours of any number behind it.
func rowOf(count uint32, n int) string {
	return fours(count) + fours(make(row, n)...)
}

// P12.2: rows of as many as are allowed, and one more; then layer 3's errors, as they stand in the bytes.
func TestParseMany(t *testing.T) {
	digest, long := strings.Repeat("d", 32), text(strings.Repeat("x", 201))
	vertex := fours(1, 1)
	for _, c := range []struct {
		what   string
		s      string
		wanted api.Errno
	}{
		{"64 vertices", "m" + rowOf(64, 64), api.ErrShort}, {"65 vertices", "m" + rowOf(65, 65), api.ErrMany}, {"65 vertices, none there", "m" + fours(65), api.ErrMany}, {"as many vertices as there can be", "m" + fours(top), api.ErrMany},
		{"160 edges", "m" + fours(0) + rowOf(160, 480), api.ErrArg}, {"160 edges, too short", "m" + fours(0) + rowOf(160, 479), api.ErrShort}, {"161 edges", "m" + fours(0) + rowOf(161, 483), api.ErrMany}, {"161 edges, none there", "m" + fours(0, 161), api.ErrMany}, {"161 edges, vertices not rising", "m" + fours(2, 1, 1, 161), api.ErrMany},
		{"320 darts", "m" + vertex + fours(0) + rowOf(320, 320), api.ErrTurn}, {"320 darts, too short", "m" + vertex + fours(0) + rowOf(320, 319), api.ErrShort}, {"321 darts", "m" + vertex + fours(0) + rowOf(321, 321), api.ErrMany}, {"321 darts, none there", "m" + vertex + fours(0, 321), api.ErrMany}, {"321 darts of the second", "m" + fours(2, 1, 2, 0, 0, 321), api.ErrMany},
		{"a turn more than vertices", "m" + vertex + fours(0, 0, 0), api.ErrForm}, {"a turn less", "m" + vertex + fours(0), api.ErrShort},
		{"two parents", "c" + digest + fours(2) + digest + strings.Repeat("e", 32) + eight(1) + text(""), api.OK}, {"three parents", "c" + digest + fours(3) + digest + digest + digest + eight(1) + text(""), api.ErrMany}, {"three parents, none there", "c" + digest + fours(3), api.ErrMany},
		{"two that are one", "c" + digest + fours(2) + digest + digest + eight(1) + text(""), api.ErrThere}, {"two that are one, a byte more", "c" + digest + fours(2) + digest + digest + eight(1) + text("") + "x", api.ErrForm}, {"two that are one, too short", "c" + digest + fours(2) + digest + digest + eight(1) + "\x00", api.ErrShort},
		{"two that are one, a text too long", "c" + digest + fours(2) + digest + digest + eight(1) + long, api.ErrLong}, {"three parents, a text too long", "c" + digest + fours(3) + digest + digest + digest + eight(1) + long, api.ErrMany},
		{"a text too long", "c" + digest + fours(0) + eight(1) + long, api.ErrLong}, {"a text too long, none there", "c" + digest + fours(0) + eight(1) + fours(201), api.ErrLong}, {"a text too long, a byte more", "c" + digest + fours(0) + eight(1) + long + "x", api.ErrLong}, {"a text too short", "c" + digest + fours(0) + eight(1) + fours(200) + "x", api.ErrShort},
		{"a tag's text too long", "t" + digest + long, api.ErrLong}, {"a tag's text too long, none there", "t" + digest + fours(top), api.ErrLong}, {"a tag's text too long, a byte more", "t" + digest + long + "x", api.ErrLong}, {"a tag's text too short", "t" + digest + fours(200), api.ErrShort},
	} {
		wantParse(t, c.what, c.s, c.wanted)
	}
}

// P12.2: maps that may not be, or don't lie in the plane: layer 3's errors come ahead of Check's.
func TestParseCheck(t *testing.T) {
	one := edges{edge(5, 1, 2)}
	for _, c := range []struct {
		what   string
		m      api.Map
		wanted api.Errno
	}{
		{"vertex 0", mapOf(row{0, 1}, nil, nil, nil), api.ErrArg}, {"a vertex too high", mapOf(row{1, api.MaxID + 1}, nil, nil, nil), api.ErrArg}, {"an edge too high", thick(64, 160, api.MaxID-158), api.ErrArg},
		{"falling", mapOf(row{2, 1}, nil, nil, nil), api.ErrOrder}, {"a vertex twice", mapOf(row{2, 2}, nil, nil, nil), api.ErrOrder}, {"edges falling", mapOf(row{1, 2}, edges{edge(2, 1, 2), edge(1, 1, 2)}, row{2, 4}, row{3, 5}), api.ErrOrder}, {"an edge twice", mapOf(row{1, 2}, edges{edge(2, 1, 2), edge(2, 1, 2)}, row{4, 4}, row{5, 5}), api.ErrOrder},
		{"a loop", mapOf(row{1, 2}, edges{edge(1, 1, 1)}, row{2, 3}, nil), api.ErrLoop}, {"an end at nothing", mapOf(row{1, 2}, edges{edge(1, 1, 3)}, row{2}, nil), api.ErrEnd}, {"edges without vertices", mapOf(nil, one), api.ErrEnd},
		{"an empty turn", mapOf(row{1, 2}, one, nil, row{11}), api.ErrTurn}, {"a dart twice", mapOf(row{1, 2}, one, row{10, 10}, row{11}), api.ErrTurn}, {"not told normally", mapOf(row{1, 2}, twisted().Edges, row{4, 6, 2}, row{3, 7, 5}), api.ErrTurn},
		{"off the plane", twisted(), api.ErrGenus},
	} {
		s := mapBytes(c.m)
		wantParse(t, c.what, s, c.wanted)
		wantParse(t, c.what+", a byte more", s+"x", api.ErrForm)
		for n := range len(s) {
			wantParse(t, c.what+", too short", s[:n], api.ErrShort)
		}
	}
}

// P12.3: of bytes of which one is another one: what is read would be written so, and is written as it is alone.
func TestParseOthers(t *testing.T) {
	read := 0
	for _, o := range []object.Object{object.Map(ring()), object.Map(thick(3, 4, 254)), object.Map(thick(4, 2, 1)), object.Commit(commitOf(258, "hi", 1, 2)), object.Tag(api.Tag{At: digestOf(7), Text: "hi"})} {
		s := bytesOf(o)
		for at := range len(s) {
			for b := range 256 {
				other := s[:at] + string([]byte{byte(b)}) + s[at+1:]
				got, e := object.Parse(other)
				if e != api.OK {
					continue
				}
				read++
				again, e := got.Bytes()
				if e != api.OK || again != other || bytesOf(got) != other || object.Same(got, o) != (other == s) {
					t.Fatalf("%q: %v, %q", other, e, again)
				}
			}
		}
	}
	want(t, "some were read", read > 1000, true)
}

// No call changes what is handed in, or keeps it; what is answered is new memory.
func TestMemory(t *testing.T) {
	m, parents := ring(), []api.Digest{digestOf(1), digestOf(2), digestOf(99)}
	m.Verts, m.Edges, m.Rots = append(m.Verts, 77)[:3], append(m.Edges, edge(7, 7, 7))[:3], append(m.Rots, row{7})[:3]
	c := api.Commit{Map: digestOf(100), Parents: parents[:2], Number: 3, Text: "hi"}
	drawn, told := object.Map(m), object.Commit(c)
	whole := object.Object{Kind: 'c', Map: m, Commit: c}
	for _, o := range []object.Object{drawn, told, whole, {Kind: 'm', Map: m, Commit: c}} {
		s, _ := o.Bytes()
		o.Check()
		o.ID()
		object.Same(o, whole)
		links := object.Links(o)
		fill(links, digestOf(66))
		a, _ := object.Parse(s)
		b, _ := object.Parse(s)
		scribble(a)
		want(t, "of its own", bytesOf(b), s)
		want(t, "as it was", bytesOf(o), s)
	}
	scribble(object.Map(m))
	scribble(object.Commit(c))
	wantObject(t, "what was handed in", object.Object{Map: m, Commit: c}, object.Object{Map: ring(), Commit: commitOf(3, "hi", 1, 2)})
	want(t, "spare room", m.Verts[:4][3] == 77 && m.Edges[:4][3] == edge(7, 7, 7) && slices.Equal(m.Rots[:4][3], row{7}) && parents[2] == digestOf(99), true)
	scribble(whole)
	fill(parents, digestOf(65))
	wantObject(t, "a map isn't kept", drawn, object.Object{Kind: 'm', Map: ring()})
	wantObject(t, "a commit isn't kept", told, object.Object{Kind: 'c', Commit: commitOf(3, "hi", 1, 2)})
}

// A turn of a map that was read shares nothing with another one.
func TestApart(t *testing.T) {
	for _, o := range []object.Object{object.Map(ring()), object.Map(thick(5, 9, 1))} {
		s, _ := o.Bytes()
		got, _ := object.Parse(s)
		for i, turn := range got.Map.Rots {
			want(t, "a turn behind the others", slices.Equal(turn, o.Map.Rots[i]), true)
			fill(turn, 99)
		}
		want(t, "vertices behind the turns", slices.Equal(got.Map.Verts, o.Map.Verts), true)
		fill(got.Map.Verts, 98)
		want(t, "edges behind all", slices.Equal(got.Map.Edges, o.Map.Edges), true)
	}
}
