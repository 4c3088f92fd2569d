package rot_test

import (
	"slices"
	"testing"

	"parterre/api"
	"parterre/rot"
)

// ring is three vertices and three edges round them.
func ring() api.Map {
	return mapOf(row{1, 2, 3}, edges{edge(1, 1, 2), edge(2, 2, 3), edge(3, 3, 1)}, row{2, 7}, row{3, 4}, row{5, 6})
}

// twisted is a bundle of three edges that doesn't lie in the plane.
func twisted() api.Map {
	return mapOf(row{1, 2}, edges{edge(1, 1, 2), edge(2, 1, 2), edge(3, 1, 2)}, row{2, 4, 6}, row{3, 5, 7})
}

// P10.1: maps that may be, and each way in which turns aren't as told.
func TestCheck(t *testing.T) {
	three := edges{edge(1, 1, 2), edge(2, 1, 2), edge(3, 1, 2)}
	one := edges{edge(1, 1, 2)}
	for _, c := range []struct {
		what   string
		m      api.Map
		wanted api.Errno
	}{
		{"nothing", api.Map{}, api.OK},
		{"nothing at all", api.Map{Rots: []row{}}, api.OK},
		{"a turn of no vertex", mapOf(nil, nil, nil), api.ErrTurn},
		{"a turn with darts of no vertex", mapOf(nil, nil, row{2}), api.ErrTurn},
		{"a vertex alone", mapOf(row{7}, nil, nil), api.OK},
		{"a vertex alone, empty turn", mapOf(row{7}, nil, row{}), api.OK},
		{"a vertex alone, no turn", mapOf(row{7}, nil), api.ErrTurn},
		{"a vertex alone, two turns", mapOf(row{7}, nil, nil, nil), api.ErrTurn},
		{"a vertex alone, a dart", mapOf(row{7}, nil, row{14}), api.ErrTurn},
		{"a vertex alone, dart 0", mapOf(row{7}, nil, row{0}), api.ErrTurn},
		{"an edge", mapOf(row{1, 2}, one, row{2}, row{3}), api.OK},
		{"an edge, turns the other way", mapOf(row{1, 2}, one, row{3}, row{2}), api.ErrTurn},
		{"an edge, the first turn empty", mapOf(row{1, 2}, one, nil, row{3}), api.ErrTurn},
		{"an edge, the last turn empty", mapOf(row{1, 2}, one, row{2}, nil), api.ErrTurn},
		{"an edge, a turn too few", mapOf(row{1, 2}, one, row{2}), api.ErrTurn},
		{"an edge, a turn too many", mapOf(row{1, 2}, one, row{2}, row{3}, nil), api.ErrTurn},
		{"an edge, both at one", mapOf(row{1, 2}, one, row{2, 3}, nil), api.ErrTurn},
		{"an edge, a dart twice", mapOf(row{1, 2}, one, row{2, 2}, row{3}), api.ErrTurn},
		{"an edge, a dart of none", mapOf(row{1, 2}, one, row{2, 4}, row{3}), api.ErrTurn},
		{"an edge, another dart", mapOf(row{1, 2}, one, row{2}, row{5}), api.ErrTurn},
		{"an edge, a turn with 0", mapOf(row{1, 2}, one, row{0, 2}, row{3}), api.ErrTurn},
		{"the edge's other end ahead", mapOf(row{1, 2}, edges{edge(1, 2, 1)}, row{3}, row{2}), api.OK},
		{"a turn too few, of none alone", mapOf(row{1, 2, 3}, one, row{2}, row{3}), api.ErrTurn},
		{"the turns of others", mapOf(row{1, 2, 3}, one, row{2}, nil, row{3}), api.ErrTurn},
		{"three", mapOf(row{1, 2}, three, row{2, 4, 6}, row{3, 7, 5}), api.OK},
		{"three, off the plane", mapOf(row{1, 2}, three, row{2, 4, 6}, row{3, 5, 7}), api.OK},
		{"three, the first not told normally", mapOf(row{1, 2}, three, row{4, 6, 2}, row{3, 7, 5}), api.ErrTurn},
		{"three, the last not told normally", mapOf(row{1, 2}, three, row{2, 4, 6}, row{7, 5, 3}), api.ErrTurn},
		{"three, falling", mapOf(row{1, 2}, three, row{6, 4, 2}, row{3, 7, 5}), api.ErrTurn},
		{"three, a dart too few", mapOf(row{1, 2}, three, row{2, 4}, row{3, 7, 5}), api.ErrTurn},
		{"three, the least too few", mapOf(row{1, 2}, three, row{4, 6}, row{3, 7, 5}), api.ErrTurn},
		{"three, a dart too many", mapOf(row{1, 2}, three, row{2, 4, 6, 8}, row{3, 7, 5}), api.ErrTurn},
		{"three, a dart once more", mapOf(row{1, 2}, three, row{2, 4, 6, 4}, row{3, 7, 5}), api.ErrTurn},
		{"three, a dart for another", mapOf(row{1, 2}, three, row{2, 4, 4}, row{3, 7, 5}), api.ErrTurn},
		{"three, one of the other vertex", mapOf(row{1, 2}, three, row{2, 4, 7}, row{3, 6, 5}), api.ErrTurn},
		{"three, a twin too", mapOf(row{1, 2}, three, row{2, 4, 6, 7}, row{3, 7, 5}), api.ErrTurn},
		{"three, the highest dart", mapOf(row{1, 2}, three, row{2, 4, top}, row{3, 7, 5}), api.ErrTurn},
		{"all that may be", field(), api.OK},
	} {
		want(t, c.what, rot.Check(c.m), c.wanted)
	}
	for _, m := range maps() {
		want(t, "it may be", rot.Check(m), api.OK)
	}
}

// P10.1: the graph's errors come ahead of the turns'.
func TestCheckGraph(t *testing.T) {
	for _, c := range []struct {
		what   string
		verts  row
		edges  edges
		wanted api.Errno
	}{
		{"65 vertices", upTo(65), nil, api.ErrMany},
		{"161 edges", row{1, 2}, make(edges, 161), api.ErrMany},
		{"vertex 0", row{0, 1}, nil, api.ErrArg},
		{"a vertex too high", row{api.MaxID + 1}, nil, api.ErrArg},
		{"falling", row{2, 1}, nil, api.ErrOrder},
		{"edge 0", row{1, 2}, edges{edge(0, 1, 2)}, api.ErrArg},
		{"an edge twice", row{1, 2}, edges{edge(1, 1, 2), edge(1, 1, 2)}, api.ErrOrder},
		{"a loop", row{1, 2}, edges{edge(1, 1, 1)}, api.ErrLoop},
		{"an end at nothing", row{1, 2}, edges{edge(1, 1, 3)}, api.ErrEnd},
	} {
		m := mapOf(c.verts, c.edges)
		for range len(c.verts) {
			m.Rots = append(m.Rots, nil)
		}
		wrong := mapOf(c.verts, c.edges, row{6, 2}, row{9, 9, 0})
		for _, m := range []api.Map{m, wrong, mapOf(c.verts, c.edges), rot.Of(m.Graph, map[uint32][]uint32{1: {2, 3}})} {
			want(t, c.what, rot.Check(m), c.wanted)
			want(t, c.what, rot.Right(m), c.wanted)
		}
	}
}

// few is all rows of up to so many of these.
func few(most int, of ...uint32) []row {
	all, last := []row{nil}, []row{nil}
	for range most {
		var longer []row
		for _, l := range last {
			for _, d := range of {
				longer = append(longer, append(l[:len(l):len(l)], d))
			}
		}
		all, last = append(all, longer...), longer
	}
	return all
}

// P10.1: of all small rows as turns just those are right that are told so.
func TestCheckSmall(t *testing.T) {
	path := mapOf(row{1, 2, 3}, edges{edge(1, 1, 2), edge(2, 2, 3)})
	rows := few(3, 2, 3, 4, 5)
	for _, a := range rows {
		for _, b := range rows {
			for _, c := range few(2, 2, 3, 4, 5) {
				path.Rots = []row{a, b, c}
				may := slices.Equal(a, row{2}) && slices.Equal(b, row{3, 4}) && slices.Equal(c, row{5})
				if (rot.Check(path) == api.OK) != may {
					t.Fatalf("turns %v: %v", path.Rots, rot.Check(path))
				}
			}
		}
	}
	m := twisted()
	rows = few(4, 2, 3, 4, 5, 6, 7)
	for _, b := range rows {
		for i, a := range []row{{2, 4, 6}, {2, 6, 4}, {4, 6, 2}, {2, 4}, nil} {
			m.Rots = []row{a, b}
			may := i < 2 && (slices.Equal(b, row{3, 5, 7}) || slices.Equal(b, row{3, 7, 5}))
			if e := rot.Check(m); e != api.OK && e != api.ErrTurn || (e == api.OK) != may {
				t.Fatalf("turns %v: %v", m.Rots, e)
			}
		}
	}
}

// P10.1: each dart of greater maps taken out, doubled, turned into another one; each turn told from another dart.
func TestCheckFaults(t *testing.T) {
	for _, m := range append([]api.Map{ring(), twisted(), field()}, maps()[60:]...) {
		for i, turn := range m.Rots {
			wrong := func(what string, told row) {
				n := m
				n.Rots = slices.Clone(m.Rots)
				n.Rots[i] = told
				if e := rot.Check(n); e != api.ErrTurn {
					t.Fatalf("%s: %v of %v: %v", what, told, n, e)
				}
			}
			wrong("one more", append(slices.Clone(turn), 2*api.MaxID+2))
			for at, d := range turn {
				wrong("one less", slices.Delete(slices.Clone(turn), at, at+1))
				wrong("one twice", slices.Insert(slices.Clone(turn), at, d))
				for _, other := range (row{0, d ^ 1, d + 2, turn[(at+1)%len(turn)]}) {
					told := slices.Clone(turn)
					told[at] = other
					if slices.Sort(told); !slices.Equal(told, dartsAt(m.Graph, m.Verts[i])) {
						told = slices.Clone(turn)
						told[at] = other
						wrong("another", told)
					}
				}
				if at > 0 {
					wrong("from another on", slices.Concat(turn[at:], turn[:at]))
				}
			}
		}
		want(t, "it stays", rot.Check(m), api.OK)
	}
}

// P10.1: what may be, but doesn't lie in the plane.
func TestRight(t *testing.T) {
	want(t, "ring", rot.Right(ring()), api.OK)
	want(t, "twisted", rot.Right(twisted()), api.ErrGenus)
	want(t, "field", rot.Right(field()), api.OK)
	want(t, "nothing", rot.Right(api.Map{}), api.OK)
	want(t, "vertices alone", rot.Right(mapOf(row{1, 5, 9}, nil, nil, nil, nil)), api.OK)
	wrong := twisted()
	wrong.Rots[0] = row{4, 6, 2}
	want(t, "twisted and not told normally", rot.Right(wrong), api.ErrTurn)
	wrong.Rots = wrong.Rots[:1]
	want(t, "a turn too few", rot.Right(wrong), api.ErrTurn)
	for _, m := range maps() {
		wanted := api.OK
		if genus(m) > 0 {
			wanted = api.ErrGenus
		}
		want(t, "right", rot.Right(m), wanted)
	}
}

// P10.1: a graph with turns, told normally; none of a vertex that isn't in them; whatever they are.
func TestOf(t *testing.T) {
	g := ring().Graph
	for _, c := range []struct {
		what   string
		turns  map[uint32][]uint32
		wanted []row
	}{
		{"none", nil, []row{nil, nil, nil}},
		{"an empty one", map[uint32][]uint32{1: {}}, []row{nil, nil, nil}},
		{"normal ones", map[uint32][]uint32{1: {2, 7}, 2: {3, 4}, 3: {5, 6}}, []row{{2, 7}, {3, 4}, {5, 6}}},
		{"others", map[uint32][]uint32{1: {7, 2}, 2: {4, 3}, 3: {6, 5}}, []row{{2, 7}, {3, 4}, {5, 6}}},
		{"one", map[uint32][]uint32{2: {9, 4, 3}}, []row{nil, {3, 9, 4}, nil}},
		{"of vertices that aren't there", map[uint32][]uint32{0: {1}, 4: {2}, 3: {6}, top: {7}}, []row{nil, nil, {6}}},
		{"darts twice", map[uint32][]uint32{1: {9, 5, 5, 7, 5}}, []row{{5, 5, 7, 5, 9}, nil, nil}},
		{"the ends of numbers", map[uint32][]uint32{1: {top, 0}}, []row{{0, top}, nil, nil}},
	} {
		wantMap(t, c.what, rot.Of(g, c.turns), mapOf(g.Verts, g.Edges, c.wanted...))
	}
	wantMap(t, "nothing", rot.Of(api.Graph{}, map[uint32][]uint32{1: {2}}), api.Map{})
	wantMap(t, "what may not be", rot.Of(api.Graph{Verts: row{5, 0, 5}, Edges: edges{edge(9, 1, 1)}}, map[uint32][]uint32{5: {3, 1}, 0: {top}}), mapOf(row{5, 0, 5}, edges{edge(9, 1, 1)}, row{1, 3}, row{top}, row{1, 3}))
	for _, m := range maps() {
		turns := map[uint32][]uint32{}
		for i, v := range m.Verts {
			if at := len(m.Rots[i]) / 2; at > 0 || i%2 == 0 {
				turns[v] = slices.Concat(m.Rots[i][at:], m.Rots[i][:at])
			}
		}
		for i, turn := range m.Rots {
			if len(turn) == 1 {
				turns[m.Verts[i]] = turn
			}
		}
		wantMap(t, "of", rot.Of(m.Graph, turns), m)
	}
}
