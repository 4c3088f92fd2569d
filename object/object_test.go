package object_test

import (
	"slices"
	"strings"
	"testing"

	"parterre/api"
	"parterre/object"
)

// P12.1: the objects: of their kind, with what was handed in, and nothing else.
func TestObjects(t *testing.T) {
	for _, m := range []api.Map{{}, ring(), twisted(), mapOf(row{3, 1}, edges{edge(0, 1, 1)}, row{9, 2}), mapOf(nil, nil, nil, row{1})} {
		wantObject(t, "a map", object.Map(m), object.Object{Kind: 'm', Map: m})
	}
	for _, c := range []api.Commit{{}, commitOf(3, "hi"), commitOf(3, "hi", 1), commitOf(3, "hi", 1, 1, 2, 1), commitOf(0, strings.Repeat("x", 999))} {
		wantObject(t, "a commit", object.Commit(c), object.Object{Kind: 'c', Commit: c})
	}
	for _, g := range []api.Tag{{}, {At: digestOf(1), Text: "hi"}, {Text: strings.Repeat("x", 999)}} {
		wantObject(t, "a tag", object.Tag(g), object.Object{Kind: 't', Tag: g})
	}
}

// P12.1: all that may be.
func TestCheckRight(t *testing.T) {
	for _, o := range objects() {
		wantError(t, "it may be", o, api.OK)
	}
}

// P12.1: kinds that are none, whatever else there is.
func TestCheckKind(t *testing.T) {
	for kind := range 256 {
		o := object.Object{Kind: byte(kind), Map: ring(), Commit: commitOf(1, "hi", 1), Tag: api.Tag{Text: "hi"}}
		wanted := api.ErrKind
		if kind == 'm' || kind == 'c' || kind == 't' {
			wanted = api.OK
		}
		wantError(t, "a kind", o, wanted)
		switch kind {
		case 'm':
			wanted = api.ErrGenus
		case 'c':
			wanted = api.ErrThere
		case 't':
			wanted = api.ErrLong
		}
		wantError(t, "a kind, all else wrong", object.Object{Kind: byte(kind), Map: twisted(), Commit: commitOf(1, "hi", 1, 1), Tag: api.Tag{Text: strings.Repeat("x", 201)}}, wanted)
	}
}

// P12.1: maps that may not be, or don't lie in the plane.
func TestCheckMap(t *testing.T) {
	one := edges{edge(5, 1, 2)}
	high := thick(64, 160, api.MaxID-158)
	for _, c := range []struct {
		what   string
		m      api.Map
		wanted api.Errno
	}{
		{"65 vertices", thick(65, 0, 1), api.ErrMany}, {"161 edges", thick(64, 161, 1), api.ErrMany}, {"161 edges of two", thick(2, 161, 1), api.ErrMany},
		{"vertex 0", mapOf(row{0, 1}, nil, nil, nil), api.ErrArg}, {"a vertex too high", mapOf(row{1, api.MaxID + 1}, nil, nil, nil), api.ErrArg}, {"edge 0", mapOf(row{1, 2}, edges{edge(0, 1, 2)}, row{0}, row{1}), api.ErrArg}, {"an edge too high", high, api.ErrArg},
		{"falling", mapOf(row{2, 1}, nil, nil, nil), api.ErrOrder}, {"a vertex twice", mapOf(row{2, 2}, nil, nil, nil), api.ErrOrder}, {"edges falling", mapOf(row{1, 2}, edges{edge(2, 1, 2), edge(1, 1, 2)}, row{2, 4}, row{3, 5}), api.ErrOrder},
		{"a loop", mapOf(row{1, 2}, edges{edge(1, 1, 1)}, row{2, 3}, nil), api.ErrLoop}, {"an end at nothing", mapOf(row{1, 2}, edges{edge(1, 1, 3)}, row{2}, nil), api.ErrEnd},
		{"a turn too few", mapOf(row{1, 2}, one, row{10}), api.ErrTurn}, {"a turn too many", mapOf(row{1, 2}, one, row{10}, row{11}, nil), api.ErrTurn}, {"an empty turn", mapOf(row{1, 2}, one, nil, row{11}), api.ErrTurn}, {"a dart twice", mapOf(row{1, 2}, one, row{10, 10}, row{11}), api.ErrTurn}, {"not told normally", mapOf(row{1, 2}, twisted().Edges, row{4, 6, 2}, row{3, 7, 5}), api.ErrTurn},
		{"off the plane", twisted(), api.ErrGenus}, {"in the plane", mapOf(row{1, 2}, twisted().Edges, row{2, 4, 6}, row{3, 7, 5}), api.OK},
	} {
		wantError(t, c.what, object.Object{Kind: 'm', Map: c.m, Commit: commitOf(1, "hi", 1, 1, 1), Tag: api.Tag{Text: strings.Repeat("x", 201)}}, c.wanted)
		wantError(t, c.what, object.Map(c.m), c.wanted)
	}
}

// P12.1: parents and texts of commits, texts of tags; of several errors the first.
func TestCheckCommit(t *testing.T) {
	full, long := strings.Repeat("x", 200), strings.Repeat("x", 201)
	for _, c := range []struct {
		what   string
		c      api.Commit
		wanted api.Errno
	}{
		{"none", commitOf(1, full), api.OK}, {"one", commitOf(1, full, 1), api.OK}, {"two", commitOf(1, full, 1, 2), api.OK}, {"two, falling", commitOf(1, full, 2, 1), api.OK},
		{"three", commitOf(1, "", 1, 2, 3), api.ErrMany}, {"four", commitOf(1, "", 1, 2, 3, 4), api.ErrMany}, {"two that are one", commitOf(1, "", 2, 2), api.ErrThere}, {"two zero ones", api.Commit{Parents: make([]api.Digest, 2)}, api.ErrThere}, {"a parent as the map", commitOf(1, "", 100), api.OK},
		{"three that are one", commitOf(1, "", 2, 2, 2), api.ErrMany}, {"three, two of them one", commitOf(1, long, 2, 2, 1), api.ErrMany}, {"two that are one, and a text too long", commitOf(1, long, 2, 2), api.ErrThere}, {"three, and a text too long", commitOf(1, long, 1, 2, 3), api.ErrMany},
		{"a text too long", commitOf(1, long), api.ErrLong}, {"a text too long, two", commitOf(1, long, 1, 2), api.ErrLong}, {"a text far too long", commitOf(1, strings.Repeat(long, 1000)), api.ErrLong}, {"bytes count, not letters", commitOf(1, strings.Repeat("ö", 101)), api.ErrLong}, {"as many bytes as may be", commitOf(1, strings.Repeat("ö", 100)), api.OK},
	} {
		wantError(t, c.what, object.Object{Kind: 'c', Map: twisted(), Commit: c.c, Tag: api.Tag{Text: long}}, c.wanted)
		wantError(t, c.what, object.Commit(c.c), c.wanted)
	}
	// All but the last byte of two parents are one.
	near := commitOf(1, "", 2, 2)
	near.Parents[1][31]++
	wantError(t, "nearly one", object.Commit(near), api.OK)
	for s, wanted := range map[string]api.Errno{"": api.OK, full: api.OK, long: api.ErrLong, strings.Repeat(full, 9): api.ErrLong} {
		wantError(t, "a tag", object.Object{Kind: 't', Map: twisted(), Commit: commitOf(1, long, 2, 2, 2), Tag: api.Tag{Text: s}}, wanted)
		wantError(t, "a tag", object.Tag(api.Tag{Text: s}), wanted)
	}
}

// P12.2: the digests that an object tells; what isn't of the kind doesn't count.
func TestLinks(t *testing.T) {
	tag, d := api.Tag{At: digestOf(50), Text: "hi"}, digestOf(100)
	for _, c := range []struct {
		what   string
		o      object.Object
		wanted []api.Digest
	}{
		{"nothing", object.Object{}, nil},
		{"a map", object.Object{Kind: 'm', Map: ring(), Commit: commitOf(1, "", 1), Tag: tag}, nil},
		{"no kind", object.Object{Kind: 'x', Map: ring(), Commit: commitOf(1, "", 1), Tag: tag}, nil},
		{"a tag", object.Object{Kind: 't', Map: ring(), Commit: commitOf(1, "", 1), Tag: tag}, []api.Digest{digestOf(50)}},
		{"a tag of zero", object.Tag(api.Tag{}), []api.Digest{{}}},
		{"no parents", object.Object{Kind: 'c', Map: ring(), Commit: commitOf(1, ""), Tag: tag}, []api.Digest{d}},
		{"a parent", object.Commit(commitOf(1, "", 9)), []api.Digest{d, digestOf(9)}},
		{"two, falling", object.Commit(commitOf(1, "", 9, 8)), []api.Digest{d, digestOf(9), digestOf(8)}},
		{"a commit of zero", object.Commit(api.Commit{}), []api.Digest{{}}},
		{"a parent as the map", object.Commit(commitOf(1, "", 100)), []api.Digest{d, d}},
	} {
		if got := object.Links(c.o); !slices.Equal(got, c.wanted) {
			t.Errorf("%s: %v, wanted %v", c.what, got, c.wanted)
		}
	}
}

// P12.2: two of one kind that are the same; those that differ by one thing alone aren't.
func TestSame(t *testing.T) {
	l := objects()
	for i, a := range l {
		for j, b := range l {
			want(t, "same", object.Same(a, b), i == j || bytesOf(a) == bytesOf(b))
		}
	}
	commit := func(change func(*api.Commit)) object.Object {
		c := commitOf(3, "hi", 1, 2)
		change(&c)
		return object.Commit(c)
	}
	drawn := func(change func(*api.Map)) object.Object {
		m := ring()
		change(&m)
		return object.Map(m)
	}
	c, m, g := object.Commit(commitOf(3, "hi", 1, 2)), object.Map(ring()), object.Tag(api.Tag{At: digestOf(1), Text: "hi"})
	for _, o := range [][2]object.Object{
		{c, commit(func(c *api.Commit) { c.Map[31]++ })}, {c, commit(func(c *api.Commit) { c.Parents[1][0]++ })}, {c, commit(func(c *api.Commit) { c.Parents = c.Parents[:1] })}, {c, commit(func(c *api.Commit) { slices.Reverse(c.Parents) })}, {c, commit(func(c *api.Commit) { c.Number++ })}, {c, commit(func(c *api.Commit) { c.Text = "ho" })},
		{m, drawn(func(m *api.Map) { m.Verts[2]++ })}, {m, drawn(func(m *api.Map) { m.Edges[2].ID++ })}, {m, drawn(func(m *api.Map) { m.Edges[0] = edge(1, 2, 1) })}, {m, drawn(func(m *api.Map) { m.Rots[2] = row{5} })},
		{g, object.Tag(api.Tag{At: digestOf(2), Text: "hi"})}, {g, object.Tag(api.Tag{At: digestOf(1), Text: "h"})}, {c, m}, {m, g}, {g, c}, {c, {}}, {{Kind: 'x'}, {Kind: 'y'}}, {m, {Kind: 'x', Map: ring()}},
	} {
		want(t, "not the same", object.Same(o[0], o[1]), false)
		want(t, "not the same, turned about", object.Same(o[1], o[0]), false)
	}
	three := mapOf(row{1, 2}, twisted().Edges, row{2, 4, 6}, row{3, 7, 5})
	want(t, "mirrored", object.Same(object.Map(three), object.Map(mapOf(row{1, 2}, twisted().Edges, row{2, 6, 4}, row{3, 5, 7}))), false)
}

// P12.2: what isn't of the kind doesn't count; empty lists are as nil ones.
func TestSameKind(t *testing.T) {
	tag := api.Tag{At: digestOf(50), Text: "hi"}
	for _, o := range [][2]object.Object{
		{object.Map(ring()), {Kind: 'm', Map: ring(), Commit: commitOf(1, "", 1), Tag: tag}},
		{object.Commit(commitOf(1, "", 1)), {Kind: 'c', Map: ring(), Commit: commitOf(1, "", 1), Tag: tag}},
		{object.Tag(tag), {Kind: 't', Map: ring(), Commit: commitOf(1, "", 1), Tag: tag}},
		{object.Map(api.Map{}), object.Map(mapOf(row{}, edges{}, []row{}...))}, {object.Map(mapOf(row{1}, nil, nil)), object.Map(mapOf(row{1}, edges{}, row{}))},
		{object.Commit(api.Commit{}), object.Commit(api.Commit{Parents: []api.Digest{}})}, {{}, {}}, {{Kind: 'x', Tag: tag}, {Kind: 'x'}},
	} {
		want(t, "same", object.Same(o[0], o[1]), true)
		want(t, "same, turned about", object.Same(o[1], o[0]), true)
	}
}
