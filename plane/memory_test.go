package plane_test

import (
	"slices"
	"testing"

	"parterre/api"
	"parterre/plane"
	"parterre/rot"
)

// fill makes all things of a row another one, spare room included.
func fill[T any](l []T, with T) {
	l = l[:cap(l)]
	for i := range l {
		l[i] = with
	}
}

// roomy is a graph with spare room behind its rows, and whether all that is still as it was.
func roomy() (api.Graph, func(*testing.T)) {
	verts := row{1, 2, 3, 5, 6, 8, 8}
	l := edges{edge(1, 2, 1), edge(2, 3, 1), edge(3, 1, 2), edge(4, 2, 3), edge(5, 5, 3), edge(8, 8, 8)}
	keptVerts, keptEdges := slices.Clone(verts), slices.Clone(l)
	return api.Graph{Verts: verts[:5], Edges: l[:5]}, func(t *testing.T) {
		t.Helper()
		wantRow(t, "vertices handed in", verts, keptVerts)
		wantRow(t, "edges handed in", l, keptEdges)
	}
}

// What is handed in isn't changed, spare room included; what is answered is new memory, each row of it, and isn't kept.
func TestMemory(t *testing.T) {
	g, stays := roomy()
	m, _ := plane.Embed(g)
	again, _ := plane.Embed(g)
	plane.Planar(g)
	stays(t)
	wanted := rot.Clone(m)
	for i, turn := range m.Rots {
		wantRow(t, "a turn behind the others", turn, wanted.Rots[i])
		fill(turn, 99)
	}
	fill(m.Rots, row{99})
	wantRow(t, "vertices behind the turns", m.Verts, wanted.Verts)
	fill(m.Verts, 99)
	wantRow(t, "edges behind the vertices", m.Edges, wanted.Edges)
	fill(m.Edges, edge(99, 99, 99))
	stays(t)
	fill(g.Verts, 98)
	fill(g.Edges, edge(98, 98, 98))
	want(t, "another answer", rot.Same(again, wanted) && rot.Right(again) == api.OK, true)
}

// Rings that are handed in aren't changed, and the answer's maps are each its own.
func TestMemoryAround(t *testing.T) {
	l := row{1, 2, 3, 9, 9}
	faces := []row{l[:3], l[1:3], l[:3], {8}}
	given := faces[:3]
	around := plane.Around(given)
	wanted := turns{1: {3: 2}, 2: {1: 3, 3: 3}, 3: {2: 1}}
	wanted[3][2] = 1
	wantTurns(t, "around", around, wanted)
	again := plane.Around(given)
	clear(around[1])
	around[2][7] = 7
	delete(around, 3)
	wantTurns(t, "around again", again, wanted)
	wantTurns(t, "and again", plane.Around(given), wanted)
	wantRow(t, "rings", l, row{1, 2, 3, 9, 9})
	want(t, "as many", len(faces[0])+10*len(faces[1])+100*len(faces[2])+1000*len(faces[3]), 1323)
	fill(l, 7)
	wantTurns(t, "not kept", again, wanted)
}

// What is answered hangs on the graph alone: not on spare room, on nil or empty rows, nor on how often it is asked.
func TestAgain(t *testing.T) {
	for what, g := range drawnOnes() {
		m, _ := plane.Embed(g)
		h := api.Graph{Verts: append(make(row, 0, 300), g.Verts...), Edges: append(make(edges, 0, 300), g.Edges...)}
		for range 5 {
			again, ok := plane.Embed(h)
			want(t, what, ok && rot.Same(m, again), true)
		}
	}
}

// Graphs that may not be: nothing is promised of them but that the calls end.
func TestOthersEnd(t *testing.T) {
	for _, g := range []api.Graph{
		{Verts: row{3, 1, 1, 0}, Edges: edges{edge(0, 1, 1), edge(top, 7, 8), edge(2, 8, 7), edge(2, 3, top), edge(2, top, 0), edge(2, 0, 3)}},
		{Edges: edges{edge(1, 1, 2), edge(1, 1, 2)}}, {Verts: row{1}, Edges: edges{edge(1, 1, 1)}}, {Verts: row{2, 1}, Edges: edges{edge(2, 1, 2), edge(1, 1, 2)}},
		{Verts: upTo(5000), Edges: along(1, upTo(5000)...)}, {Verts: make(row, 500), Edges: make(edges, 500)}, all(40),
	} {
		_, ok := plane.Embed(g)
		want(t, "as told", plane.Planar(g), ok)
	}
}
