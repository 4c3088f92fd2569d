package block_test

import (
	"slices"
	"testing"

	"parterre/api"
	"parterre/block"
	"parterre/graph"
)

// P13.1: the first edge of each bundle, and the bundles' numbers.
func TestSimple(t *testing.T) {
	for _, c := range []struct {
		what    string
		g       api.Graph
		wanted  edges
		bundles []row
	}{
		{"nothing", api.Graph{}, nil, nil},
		{"vertices alone", of(row{1, 2}), nil, nil},
		{"an edge", of(row{5}, edges{edge(7, 2, 1)}), edges{edge(7, 2, 1)}, []row{{7}}},
		{"two", of(nil, edges{edge(7, 2, 1), edge(9, 2, 1)}), edges{edge(7, 2, 1)}, []row{{7, 9}}},
		{"to and fro", of(nil, edges{edge(7, 2, 1), edge(9, 1, 2)}), edges{edge(7, 2, 1)}, []row{{7, 9}}},
		{"fro and to", of(nil, edges{edge(7, 1, 2), edge(9, 2, 1), edge(10, 1, 2)}), edges{edge(7, 1, 2)}, []row{{7, 9, 10}}},
		{"a ring", of(nil, along(1, 1, 2, 3, 1)), along(1, 1, 2, 3, 1), []row{{1}, {2}, {3}}},
		{"in turn", of(nil, edges{edge(1, 3, 4), edge(2, 1, 2), edge(3, 4, 3), edge(4, 2, 1), edge(6, 1, 3), edge(8, 1, 2)}), edges{edge(1, 3, 4), edge(2, 1, 2), edge(6, 1, 3)}, []row{{1, 3}, {2, 4, 8}, {6}}},
		{"one end together", of(nil, edges{edge(1, 1, 2), edge(2, 1, 3), edge(3, 2, 3), edge(4, 3, 1)}), edges{edge(1, 1, 2), edge(2, 1, 3), edge(3, 2, 3)}, []row{{1}, {2, 4}, {3}}},
		{"ends of the same sum", of(nil, edges{edge(1, 1, 4), edge(2, 2, 3), edge(3, 4, 1)}), edges{edge(1, 1, 4), edge(2, 2, 3)}, []row{{1, 3}, {2}}},
		{"the highest numbers", of(nil, edges{edge(1, 1, api.MaxID), edge(api.MaxID, api.MaxID, 1)}), edges{edge(1, 1, api.MaxID)}, []row{{1, api.MaxID}}},
	} {
		s, bundles := block.Simple(c.g)
		wantGraph(t, c.what, s, api.Graph{Verts: c.g.Verts, Edges: c.wanted})
		wantRows(t, c.what+": bundles", bundles, c.bundles)
	}
}

// sameEnds tells whether two edges run beside each other.
func sameEnds(x, y api.Edge) bool {
	return x.A == y.A && x.B == y.B || x.A == y.B && x.B == y.A
}

// P13.1: of all graphs: each edge is held against each other one.
func TestSimpleAll(t *testing.T) {
	for _, g := range graphs() {
		var wanted edges
		var bundles []row
		for i, x := range g.Edges {
			if slices.ContainsFunc(g.Edges[:i], func(y api.Edge) bool { return sameEnds(x, y) }) {
				continue
			}
			var l row
			for _, y := range g.Edges {
				if sameEnds(x, y) {
					l = append(l, y.ID)
				}
			}
			wanted, bundles = append(wanted, x), append(bundles, l)
		}
		s, got := block.Simple(g)
		wantGraph(t, "simple", s, api.Graph{Verts: g.Verts, Edges: wanted})
		wantRows(t, "bundles", got, bundles)
		want(t, "it may be", graph.Check(s), api.OK)
		again, got := block.Simple(s)
		wantGraph(t, "again", again, s)
		want(t, "bundles of one", len(got), len(s.Edges))
	}
}

// P13.1: who has an edge with a vertex, and the vertices that have edges.
func TestNear(t *testing.T) {
	g := of(row{6}, edges{edge(1, 3, 1), edge(2, 2, 3), edge(3, 3, 2), edge(4, 3, 9), edge(5, 9, 2), edge(7, 2, 3)})
	for _, c := range []struct {
		v      uint32
		wanted row
	}{
		{1, row{3}}, {2, row{3, 9}}, {3, row{1, 2, 9}}, {9, row{2, 3}}, {6, nil}, {0, nil}, {4, nil}, {10, nil}, {api.MaxID, nil}, {top, nil},
	} {
		wantRow(t, "near", block.Near(g, c.v), c.wanted)
	}
	wantGraph(t, "bare", block.Bare(g), of(nil, g.Edges))
	wantGraph(t, "nothing", block.Bare(api.Graph{}), api.Graph{})
	wantGraph(t, "vertices alone", block.Bare(of(row{1, 2, api.MaxID})), api.Graph{})
	want(t, "of nothing", len(block.Near(api.Graph{}, 0)), 0)
}

// P13.1: of all graphs: each vertex is held against each edge.
func TestNearAll(t *testing.T) {
	for _, g := range graphs() {
		var verts row
		for _, v := range append(slices.Clone(g.Verts), 0, 1, 2, 77, api.MaxID, top) {
			var wanted row
			for _, u := range g.Verts {
				if slices.ContainsFunc(g.Edges, func(x api.Edge) bool { return sameEnds(x, edge(0, v, u)) }) {
					wanted = append(wanted, u)
				}
			}
			wantRow(t, "near", block.Near(g, v), wanted)
			if len(wanted) > 0 {
				verts = append(verts, v)
			}
		}
		bare := block.Bare(g)
		wantGraph(t, "bare", bare, graph.Make(verts, g.Edges...))
		wantGraph(t, "bare again", block.Bare(bare), bare)
	}
}
