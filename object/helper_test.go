package object_test

import (
	"crypto/sha256"
	"encoding/binary"
	"math"
	"slices"
	"strings"
	"testing"

	"parterre/api"
	"parterre/object"
)

type (
	row   = []uint32
	edges = []api.Edge
)

const top = math.MaxUint32

// want: a test fails, if something is another thing than was wanted.
func want[T comparable](t *testing.T, what string, got, wanted T) {
	t.Helper()
	if got != wanted {
		t.Errorf("%s: %v, wanted %v", what, got, wanted)
	}
}

// wantObject goes past Same, which is looked at itself; all fields count.
func wantObject(t *testing.T, what string, got, wanted object.Object) {
	t.Helper()
	want(t, what+": kind", got.Kind, wanted.Kind)
	a, b := got.Map, wanted.Map
	if !slices.Equal(a.Verts, b.Verts) || !slices.Equal(a.Edges, b.Edges) || !slices.EqualFunc(a.Rots, b.Rots, slices.Equal[row]) {
		t.Errorf("%s: map %v, wanted %v", what, a, b)
	}
	c, d := got.Commit, wanted.Commit
	if !slices.Equal(c.Parents, d.Parents) {
		t.Errorf("%s: parents %v, wanted %v", what, c.Parents, d.Parents)
	}
	want(t, what+": commit's map", c.Map, d.Map)
	want(t, what+": number", c.Number, d.Number)
	want(t, what+": text", c.Text, d.Text)
	want(t, what+": tag", got.Tag, wanted.Tag)
}

// wantError: that is Check's error, Bytes' and ID's, and nothing is beside it.
func wantError(t *testing.T, what string, o object.Object, wanted api.Errno) {
	t.Helper()
	want(t, what+": Check", o.Check(), wanted)
	s, e := o.Bytes()
	want(t, what+": Bytes", e, wanted)
	d, f := o.ID()
	want(t, what+": ID", f, wanted)
	if wanted != api.OK {
		want(t, what+": bytes beside an error", s, "")
		want(t, what+": digest beside an error", d, api.Digest{})
		return
	}
	want(t, what+": digest", d, api.Digest(sha256.Sum256([]byte(s))))
}

// wantParse: bytes are no object, by that error.
func wantParse(t *testing.T, what, s string, wanted api.Errno) {
	t.Helper()
	o, e := object.Parse(s)
	want(t, what, e, wanted)
	if wanted != api.OK {
		wantObject(t, what+": beside an error", o, object.Object{})
	}
}

func edge(id, a, b uint32) api.Edge { return api.Edge{ID: id, A: a, B: b} }

// mapOf is a map told as it is, for what may not be, too.
func mapOf(verts row, l edges, turns ...row) api.Map {
	return api.Map{Graph: api.Graph{Verts: verts, Edges: l}, Rots: turns}
}

// ring is three vertices and three edges round them.
func ring() api.Map {
	return mapOf(row{1, 2, 3}, edges{edge(1, 1, 2), edge(2, 2, 3), edge(3, 3, 1)}, row{2, 7}, row{3, 4}, row{5, 6})
}

// twisted is a bundle of three edges that doesn't lie in the plane.
func twisted() api.Map {
	return mapOf(row{1, 2}, edges{edge(1, 1, 2), edge(2, 1, 2), edge(3, 1, 2)}, row{2, 4, 6}, row{3, 5, 7})
}

// thick is a path of vertices, and bundles of edges along it, in turn one edge more to each; numbers are from low on.
func thick(verts, links int, low uint32) api.Map {
	m := api.Map{}
	for i := range verts {
		m.Verts = append(m.Verts, low+uint32(i))
	}
	for i := range links {
		a := low + uint32(i%(verts-1))
		m.Edges = append(m.Edges, edge(low+uint32(i), a, a+1))
	}
	for _, v := range m.Verts {
		var turn row
		for _, x := range m.Edges {
			if x.A == v {
				turn = append(turn, 2*x.ID)
			}
		}
		for _, x := range slices.Backward(m.Edges) {
			if x.B == v {
				turn = append(turn, 2*x.ID+1)
			}
		}
		if len(turn) > 0 {
			first := slices.Index(turn, slices.Min(turn))
			turn = slices.Concat(turn[first:], turn[:first])
		}
		m.Rots = append(m.Rots, turn)
	}
	return m
}

// digestOf is one whose bytes all differ.
func digestOf(n byte) api.Digest {
	var d api.Digest
	for i := range d {
		d[i] = n + byte(i)
	}
	return d
}

// commitOf is a commit with parents of these numbers.
func commitOf(number uint64, text string, parents ...byte) api.Commit {
	c := api.Commit{Map: digestOf(100), Number: number, Text: text}
	for _, p := range parents {
		c.Parents = append(c.Parents, digestOf(p))
	}
	return c
}

// objects are objects that may be: at the limits, and between.
func objects() []object.Object {
	mixed := "\x00\xff\n\x80größer"
	l := []object.Object{
		object.Map(api.Map{}), object.Map(mapOf(row{7}, nil, nil)), object.Map(mapOf(row{1, api.MaxID}, nil, row{}, nil)), object.Map(ring()),
		object.Map(mapOf(row{1, 2}, edges{edge(5, 1, 2)}, row{10}, row{11})), object.Map(mapOf(row{1, api.MaxID}, edges{edge(api.MaxID, api.MaxID, 1)}, row{2*api.MaxID + 1}, row{2 * api.MaxID})),
		object.Map(thick(64, 0, 1)), object.Map(thick(64, 160, 1)), object.Map(thick(64, 160, api.MaxID-159)), object.Map(thick(2, 160, 500)), object.Map(thick(5, 11, 258)),
	}
	for _, text := range []string{"", "a", "hi", mixed, strings.Repeat("x", 199), strings.Repeat("y", 200), strings.Repeat("\xff", 200)} {
		l = append(l, object.Tag(api.Tag{At: digestOf(50), Text: text}), object.Tag(api.Tag{Text: text}))
		for _, number := range []uint64{0, 1, 258, 1 << 32, math.MaxUint64} {
			l = append(l, object.Commit(commitOf(number, text)), object.Commit(commitOf(number, text, 7)), object.Commit(commitOf(number, text, 9, 8)))
		}
	}
	zero := api.Commit{Parents: []api.Digest{{}, {1}}}
	return append(l, object.Commit(api.Commit{}), object.Commit(zero), object.Commit(api.Commit{Parents: make([]api.Digest, 1)}), object.Tag(api.Tag{}))
}

// fours are numbers' bytes, told by other means than the program's.
func fours(l ...uint32) string {
	var b []byte
	for _, n := range l {
		b = binary.BigEndian.AppendUint32(b, n)
	}
	return string(b)
}

func eight(n uint64) string { return string(binary.BigEndian.AppendUint64(nil, n)) }

func text(s string) string { return fours(uint32(len(s))) + s }

// numbers is a row of them.
func numbers(l row) string { return fours(uint32(len(l))) + fours(l...) }

// mapBytes is a map's bytes, whether it may be or not.
func mapBytes(m api.Map) string {
	s := "m" + numbers(m.Verts) + fours(uint32(len(m.Edges)))
	for _, x := range m.Edges {
		s += fours(x.ID, x.A, x.B)
	}
	for _, turn := range m.Rots {
		s += numbers(turn)
	}
	return s
}

func commitBytes(c api.Commit) string {
	s := "c" + string(c.Map[:]) + fours(uint32(len(c.Parents)))
	for _, p := range c.Parents {
		s += string(p[:])
	}
	return s + eight(c.Number) + text(c.Text)
}

func tagBytes(t api.Tag) string { return "t" + string(t.At[:]) + text(t.Text) }

// bytesOf is an object's bytes, whether it may be or not.
func bytesOf(o object.Object) string {
	switch o.Kind {
	case 'm':
		return mapBytes(o.Map)
	case 'c':
		return commitBytes(o.Commit)
	}
	return tagBytes(o.Tag)
}

// fill makes all things of a row another one, spare room included.
func fill[T any](l []T, with T) {
	l = l[:cap(l)]
	for i := range l {
		l[i] = with
	}
}

// scribble makes all of an object another one.
func scribble(o object.Object) {
	for _, turn := range o.Map.Rots {
		fill(turn, 99)
	}
	fill(o.Map.Rots, row{98})
	fill(o.Map.Verts, 97)
	fill(o.Map.Edges, edge(96, 95, 94))
	fill(o.Commit.Parents, digestOf(93))
}
