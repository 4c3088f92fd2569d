package block_test

import (
	"slices"
	"testing"

	"parterre/api"
	"parterre/block"
)

// fill makes all things of a row another one, spare room included.
func fill[T any](l []T, with T) {
	l = l[:cap(l)]
	for i := range l {
		l[i] = with
	}
}

// roomy is a graph with spare room behind its rows, and whether all that is still as it was.
func roomy() (api.Graph, func(*testing.T)) {
	verts := row{1, 2, 3, 5, 6, 8, 8}
	l := edges{edge(1, 2, 1), edge(2, 3, 1), edge(3, 1, 2), edge(4, 2, 3), edge(5, 5, 3), edge(8, 8, 8)}
	keptVerts, keptEdges := slices.Clone(verts), slices.Clone(l)
	return api.Graph{Verts: verts[:5], Edges: l[:5]}, func(t *testing.T) {
		t.Helper()
		wantRow(t, "vertices handed in", verts, keptVerts)
		wantRow(t, "edges handed in", l, keptEdges)
	}
}

// look holds answers to what they are of roomy's graph, row by row, and writes over each row that was looked at.
func look(t *testing.T, g api.Graph) {
	t.Helper()
	blocks := block.Blocks(g)
	wanted := []edges{{edge(1, 2, 1), edge(2, 3, 1), edge(3, 1, 2), edge(4, 2, 3)}, {edge(5, 5, 3)}}
	want(t, "blocks", len(blocks), 2)
	for i, b := range blocks {
		wantRow(t, "block", b, wanted[i])
		fill(b, edge(99, 99, 99))
	}
	s, bundles := block.Simple(g)
	want(t, "bundles", len(bundles), 4)
	for i, b := range bundles {
		wantRow(t, "bundle", b, []row{{1, 3}, {2}, {4}, {5}}[i])
		fill(b, 99)
	}
	wantGraph(t, "simple", s, api.Graph{Verts: row{1, 2, 3, 5, 6}, Edges: edges{edge(1, 2, 1), edge(2, 3, 1), edge(4, 2, 3), edge(5, 5, 3)}})
	near, path, bare := block.Near(g, 3), block.Path(g, 2, 5, nil), block.Bare(g)
	wantRow(t, "near", near, row{1, 2, 5})
	fill(near, 99)
	wantRow(t, "path", path, row{2, 3, 5})
	fill(path, 99)
	wantGraph(t, "bare", bare, api.Graph{Verts: row{1, 2, 3, 5}, Edges: g.Edges})
	for _, h := range []api.Graph{s, bare} {
		fill(h.Verts, 99)
		fill(h.Edges, edge(99, 99, 99))
	}
}

// What is handed in isn't changed, spare room included; what is answered is new memory, each row of it; and it hangs on the graph alone.
func TestMemory(t *testing.T) {
	g, stays := roomy()
	for range 20 {
		look(t, g)
		stays(t)
	}
	first, second := block.Bare(g), block.Bare(g)
	simple, _ := block.Simple(g)
	blocks := block.Blocks(g)
	fill(first.Verts, 99)
	fill(first.Edges, edge(99, 99, 99))
	fill(g.Verts, 98)
	fill(g.Edges, edge(98, 98, 98))
	h, _ := roomy()
	wantGraph(t, "another answer, and not kept", second, block.Bare(h))
	wanted, _ := block.Simple(h)
	wantGraph(t, "simple isn't kept", simple, wanted)
	wantRows(t, "blocks aren't kept", blocks, block.Blocks(h))
}

// Graphs that may not be: nothing is promised of them but that the calls end.
func TestOthersEnd(t *testing.T) {
	ring := append(upTo(5000), 1)
	for _, g := range []api.Graph{
		{Verts: row{3, 1, 1, 0}, Edges: edges{edge(0, 1, 1), edge(top, 7, 8), edge(2, 8, 7), edge(2, 3, top), edge(2, top, 0), edge(2, 0, 3)}},
		{Edges: edges{edge(1, 1, 2), edge(1, 1, 2)}},
		{Verts: upTo(5000), Edges: along(1, ring...)},
		{Verts: make(row, 500), Edges: make(edges, 500)},
	} {
		block.Blocks(g)
		block.Simple(g)
		block.Bare(g)
		for _, v := range (row{0, 1, 2, 3, 7, top}) {
			block.Near(g, v)
			for _, u := range (row{0, 1, 3, 8, top}) {
				block.Path(g, v, u, nil)
				block.Path(g, v, u, not(3, 7))
			}
		}
	}
}
