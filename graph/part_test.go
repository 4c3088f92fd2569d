package graph_test

import (
	"slices"
	"testing"

	"parterre/api"
	"parterre/graph"
)

// P9.2: the parts, and the vertices alone.
func TestParts(t *testing.T) {
	for _, c := range []struct {
		what   string
		verts  row
		edges  edges
		wanted []row
		alone  int
	}{
		{"nothing", nil, nil, nil, 0},
		{"one vertex", row{7}, nil, []row{{7}}, 1},
		{"two alone", row{7, 8}, nil, []row{{7}, {8}}, 2},
		{"an edge", row{7, 8}, edges{edge(1, 7, 8)}, []row{{7, 8}}, 0},
		{"an edge the other way", row{7, 8}, edges{edge(1, 8, 7)}, []row{{7, 8}}, 0},
		{"three edges of the same ends", row{7, 8}, edges{edge(1, 8, 7), edge(2, 7, 8), edge(3, 8, 7)}, []row{{7, 8}}, 0},
		{"an edge, and one alone", row{1, 2, 3}, edges{edge(1, 1, 2)}, []row{{1, 2}, {3}}, 1},
		{"one alone between", row{1, 2, 3}, edges{edge(1, 3, 1)}, []row{{1, 3}, {2}}, 1},
		{"one alone ahead", row{1, 2, 3}, edges{edge(1, 3, 2)}, []row{{1}, {2, 3}}, 1},
		{"two in one another", row{1, 2, 3, 4}, edges{edge(1, 1, 3), edge(2, 4, 2)}, []row{{1, 3}, {2, 4}}, 0},
		{"one round the other", row{1, 2, 3, 4}, edges{edge(1, 4, 1), edge(2, 2, 3)}, []row{{1, 4}, {2, 3}}, 0},
		{"joined by the last", row{1, 2, 3, 4}, edges{edge(1, 1, 2), edge(2, 3, 4), edge(3, 4, 2)}, []row{{1, 2, 3, 4}}, 0},
		{"found falling", row{1, 2, 3, 4, 5}, edges{edge(1, 1, 5), edge(2, 5, 3), edge(3, 3, 2)}, []row{{1, 2, 3, 5}, {4}}, 1},
		{"a ring and a star", row{1, 2, 3, 4, 5, 6, 7}, edges{edge(1, 1, 7), edge(2, 7, 4), edge(3, 4, 1), edge(4, 6, 2), edge(5, 6, 3), edge(6, 6, 5)}, []row{{1, 4, 7}, {2, 3, 5, 6}}, 0},
		{"64 in a row", upTo(64), path(63, 64), []row{upTo(64)}, 0},
		{"64 in a ring", upTo(64), path(160, 64), []row{upTo(64)}, 0},
	} {
		g := graph.Make(c.verts, c.edges...)
		wantRows(t, c.what, graph.Parts(g), c.wanted)
		want(t, c.what+": alone", graph.Alone(g), c.alone)
	}
	many := graph.Make(upTo(64))
	want(t, "64 parts", len(graph.Parts(many)), 64)
	want(t, "64 alone", graph.Alone(many), 64)
	many = graph.Make(upTo(64), path(62, 64)...)
	want(t, "two parts", len(graph.Parts(many)), 2)
	want(t, "one alone", graph.Alone(many), 1)
}

// joined is the parts, found by marks that spread along edges till nothing changes.
func joined(g api.Graph) []row {
	mark := map[uint32]uint32{}
	for _, v := range g.Verts {
		mark[v] = v
	}
	for changed := true; changed; {
		changed = false
		for _, x := range g.Edges {
			least := min(mark[x.A], mark[x.B])
			changed = changed || mark[x.A] != mark[x.B]
			mark[x.A], mark[x.B] = least, least
		}
	}
	var l []row
	for _, v := range g.Verts {
		var part row
		for _, u := range g.Verts {
			if mark[u] == v {
				part = append(part, u)
			}
		}
		if len(part) > 0 {
			l = append(l, part)
		}
	}
	return l
}

// P9.2, P9.3: the parts of all graphs of five vertices, and of greater ones; each vertex is in one.
func TestPartsAll(t *testing.T) {
	var five edges
	for a := range uint32(5) {
		for b := range a {
			five = append(five, edge(uint32(len(five)+1), a+1, b+1))
		}
	}
	all := graphs()
	for set := range 1 << len(five) {
		all = append(all, graph.Keep(graph.Make(upTo(5), five...), func(x api.Edge) bool { return set>>(x.ID-1)&1 == 1 }))
	}
	for _, g := range all {
		parts := graph.Parts(g)
		wantRows(t, "parts", parts, joined(g))
		in := slices.Concat(parts...)
		slices.Sort(in)
		wantRow(t, "each vertex in one", in, g.Verts)
		alone := 0
		for _, v := range g.Verts {
			if !slices.ContainsFunc(g.Edges, func(x api.Edge) bool { return x.A == v || x.B == v }) {
				alone++
			}
		}
		want(t, "alone", graph.Alone(g), alone)
	}
}

// Graphs that may not be: nothing is promised of them but that the calls end.
func TestOthersEnd(t *testing.T) {
	for _, g := range []api.Graph{
		{Verts: row{3, 1, 1, 0}, Edges: edges{edge(0, 1, 1), edge(top, 7, 8), edge(2, 8, 7), edge(2, 3, top)}},
		{Edges: edges{edge(1, 1, 2)}},
		{Verts: upTo(5000), Edges: path(20000, 5000)},
		{Verts: make(row, 500), Edges: make(edges, 500)},
	} {
		graph.Parts(g)
		graph.Alone(g)
		for _, n := range (row{0, 1, 2, 3, 7, top}) {
			graph.Vert(g, n)
			graph.Edge(g, n)
			graph.Ends(g, n)
		}
		want(t, "same", graph.Same(g, graph.Keep(g, func(api.Edge) bool { return true })), true)
	}
}
