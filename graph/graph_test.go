package graph_test

import (
	"cmp"
	"slices"
	"testing"

	"parterre/api"
	"parterre/graph"
)

// P9.1: by rising numbers, of several of a number the first one; whatever the numbers are.
func TestMake(t *testing.T) {
	for _, c := range []struct {
		verts  row
		edges  edges
		wanted api.Graph
	}{
		{nil, nil, api.Graph{}},
		{row{}, edges{}, api.Graph{}},
		{row{5}, nil, api.Graph{Verts: row{5}}},
		{row{3, 1, 2}, nil, api.Graph{Verts: row{1, 2, 3}}},
		{row{3, 1, 3, 1, 1}, nil, api.Graph{Verts: row{1, 3}}},
		{row{top, 0, api.MaxID + 1, api.MaxID, 0}, nil, api.Graph{Verts: row{0, api.MaxID, api.MaxID + 1, top}}},
		{nil, edges{edge(2, 1, 2)}, api.Graph{Edges: edges{edge(2, 1, 2)}}},
		{row{9}, edges{edge(2, 1, 2), edge(1, 5, 5)}, api.Graph{Verts: row{9}, Edges: edges{edge(1, 5, 5), edge(2, 1, 2)}}},
		{row{1, 2}, edges{edge(7, 1, 2), edge(7, 2, 1)}, api.Graph{Verts: row{1, 2}, Edges: edges{edge(7, 1, 2)}}},
		{row{1, 2}, edges{edge(7, 2, 1), edge(7, 1, 2)}, api.Graph{Verts: row{1, 2}, Edges: edges{edge(7, 2, 1)}}},
		{row{1, 2, 3}, edges{edge(7, 3, 1), edge(4, 1, 2), edge(7, 1, 2), edge(4, 2, 3)}, api.Graph{Verts: row{1, 2, 3}, Edges: edges{edge(4, 1, 2), edge(7, 3, 1)}}},
		{nil, edges{edge(top, 0, 0), edge(0, top, 0), edge(1<<31, 1, 2), edge(1<<31-1, 1, 2)}, api.Graph{Edges: edges{edge(0, top, 0), edge(1<<31-1, 1, 2), edge(1<<31, 1, 2), edge(top, 0, 0)}}},
	} {
		wantGraph(t, "make", graph.Make(c.verts, c.edges...), c.wanted)
	}
	wantGraph(t, "make", graph.Make(row{2, 1}), api.Graph{Verts: row{1, 2}})
}

// firsts is the vertices and edges that are asked for number by number, the first one of each.
func firsts(verts row, l edges, most uint32) api.Graph {
	var g api.Graph
	for n := range most + 1 {
		if slices.Contains(verts, n) {
			g.Verts = append(g.Verts, n)
		}
		for _, x := range l {
			if x.ID == n {
				g.Edges = append(g.Edges, x)
				break
			}
		}
	}
	return g
}

// P9.1: all small rows, and long ones, more than a graph may have.
func TestMakeFirst(t *testing.T) {
	for _, verts := range few(5, uint32(0), 1, 2, 3) {
		wantGraph(t, "make", graph.Make(verts), firsts(verts, nil, 3))
	}
	for _, l := range few(4, edge(0, 1, 2), edge(1, 1, 2), edge(1, 2, 1), edge(1, 1, 3), edge(2, 3, 3)) {
		wantGraph(t, "make", graph.Make(nil, l...), firsts(nil, l, 2))
	}
	by := chance(3)
	for range 60 {
		var verts row
		var l edges
		for i := range 2000 {
			verts = append(verts, by.Uint32N(400))
			l = append(l, edge(by.Uint32N(400), uint32(i), by.Uint32N(9)))
		}
		wantGraph(t, "make", graph.Make(verts, l...), firsts(verts, l, 400))
	}
}

// P9.2: the place of a vertex, of an edge; -1, where it isn't there.
func TestPlaces(t *testing.T) {
	numbers := row{0, 1, 2, 3, 4, 5, 64, 65, 160, 161, api.MaxID - 1, api.MaxID, api.MaxID + 1, 1 << 31, top}
	for _, g := range graphs() {
		verts, l := map[uint32]int{}, map[uint32]int{}
		ask := slices.Clone(numbers)
		for i, v := range g.Verts {
			verts[v] = i + 1
			ask = append(ask, v, v-1, v+1)
		}
		for i, x := range g.Edges {
			l[x.ID] = i + 1
			ask = append(ask, x.ID, x.ID-1, x.ID+1, x.ID*2)
		}
		for _, n := range ask {
			want(t, "vertex", graph.Vert(g, n), verts[n]-1)
			want(t, "edge", graph.Edge(g, n), l[n]-1)
		}
	}
}

// P9.2: the darts at a vertex.
func TestEnds(t *testing.T) {
	g := graph.Make(row{1, 2, 3, 4, 9}, edge(5, 2, 1), edge(3, 1, 2), edge(8, 3, 1), edge(api.MaxID, 4, 3))
	for _, c := range []struct {
		v      uint32
		wanted row
	}{
		{1, row{6, 11, 17}}, {2, row{7, 10}}, {3, row{16, 2*api.MaxID + 1}}, {4, row{2 * api.MaxID}}, {9, nil}, {0, nil}, {5, nil}, {8, nil}, {api.MaxID, nil}, {top, nil},
	} {
		wantRow(t, "ends", graph.Ends(g, c.v), c.wanted)
	}
	for _, g := range graphs() {
		all := map[uint32]row{}
		for _, x := range g.Edges {
			all[x.A] = append(all[x.A], x.ID*2)
			all[x.B] = append(all[x.B], x.ID*2+1)
		}
		n := 0
		for _, v := range g.Verts {
			wanted := all[v]
			slices.Sort(wanted)
			wantRow(t, "ends", graph.Ends(g, v), wanted)
			n += len(wanted)
		}
		want(t, "each edge has two", n, 2*len(g.Edges))
		want(t, "of none", len(graph.Ends(g, 0))+len(graph.Ends(g, api.MaxID+1)), 0)
	}
}

// P9.2: some of the edges, and all vertices.
func TestKeep(t *testing.T) {
	g := graph.Make(row{1, 2, 3}, edge(1, 1, 2), edge(2, 2, 3), edge(3, 3, 1), edge(4, 1, 2))
	for _, c := range []struct {
		what   string
		so     func(api.Edge) bool
		wanted edges
	}{
		{"all", func(api.Edge) bool { return true }, g.Edges},
		{"none", func(api.Edge) bool { return false }, nil},
		{"by number", func(x api.Edge) bool { return x.ID%2 == 0 }, edges{edge(2, 2, 3), edge(4, 1, 2)}},
		{"the first", func(x api.Edge) bool { return x.ID == 1 }, edges{edge(1, 1, 2)}},
		{"all but the last", func(x api.Edge) bool { return x.ID != 4 }, edges{edge(1, 1, 2), edge(2, 2, 3), edge(3, 3, 1)}},
		{"by A", func(x api.Edge) bool { return x.A == 1 }, edges{edge(1, 1, 2), edge(4, 1, 2)}},
		{"by B", func(x api.Edge) bool { return x.B != 2 }, edges{edge(2, 2, 3), edge(3, 3, 1)}},
	} {
		wantGraph(t, c.what, graph.Keep(g, c.so), api.Graph{Verts: row{1, 2, 3}, Edges: c.wanted})
	}
	by := chance(4)
	for _, g := range graphs() {
		stay := map[api.Edge]bool{}
		wanted := api.Graph{Verts: g.Verts}
		for _, x := range g.Edges {
			if by.IntN(2) == 0 {
				stay[x] = true
				wanted.Edges = append(wanted.Edges, x)
			}
		}
		got := graph.Keep(g, func(x api.Edge) bool { return stay[x] })
		wantGraph(t, "keep", got, wanted)
		want(t, "it may be", graph.Check(got), api.OK)
		wantGraph(t, "keep all", graph.Keep(g, func(api.Edge) bool { return true }), g)
	}
}

// P9.2: the same vertices, the same edges with the same ends.
func TestSame(t *testing.T) {
	g := api.Graph{Verts: row{1, 2, 3}, Edges: edges{edge(4, 1, 2), edge(7, 3, 1)}}
	for _, c := range []struct {
		what   string
		h      api.Graph
		wanted bool
	}{
		{"itself", g, true},
		{"told again", api.Graph{Verts: row{1, 2, 3}, Edges: edges{edge(4, 1, 2), edge(7, 3, 1)}}, true},
		{"nothing", api.Graph{}, false},
		{"without edges", api.Graph{Verts: row{1, 2, 3}}, false},
		{"another vertex", api.Graph{Verts: row{1, 2, 3, 4}, Edges: g.Edges}, false},
		{"another number of a vertex", api.Graph{Verts: row{1, 3, 4}, Edges: edges{edge(4, 1, 4), edge(7, 3, 1)}}, false},
		{"an edge less", api.Graph{Verts: row{1, 2, 3}, Edges: edges{edge(4, 1, 2)}}, false},
		{"an edge more", api.Graph{Verts: row{1, 2, 3}, Edges: edges{edge(4, 1, 2), edge(7, 3, 1), edge(8, 3, 1)}}, false},
		{"another number of an edge", api.Graph{Verts: row{1, 2, 3}, Edges: edges{edge(5, 1, 2), edge(7, 3, 1)}}, false},
		{"another A", api.Graph{Verts: row{1, 2, 3}, Edges: edges{edge(4, 3, 2), edge(7, 3, 1)}}, false},
		{"another B", api.Graph{Verts: row{1, 2, 3}, Edges: edges{edge(4, 1, 2), edge(7, 3, 2)}}, false},
		{"ends turned about", api.Graph{Verts: row{1, 2, 3}, Edges: edges{edge(4, 2, 1), edge(7, 3, 1)}}, false},
	} {
		want(t, c.what, graph.Same(g, c.h), c.wanted)
		want(t, c.what+", the other way", graph.Same(c.h, g), c.wanted)
	}
	want(t, "nil and empty", graph.Same(api.Graph{}, api.Graph{Verts: row{}, Edges: edges{}}), true)
	all := graphs()
	for _, a := range all {
		for _, b := range all {
			want(t, "same", graph.Same(a, b), slices.Equal(a.Verts, b.Verts) && slices.Equal(a.Edges, b.Edges))
		}
	}
}

// P9.3: what is made of numbers that may be, with all ends, may be.
func TestMayBe(t *testing.T) {
	by := chance(5)
	for i := range 3000 {
		verts, l := some(by, by.IntN(65), by.IntN(161), []int{160, api.MaxID}[i%2])
		for range by.IntN(9) {
			if n := len(verts); n > 0 {
				verts = append(verts, verts[by.IntN(n)])
			}
			if n := len(l); n > 0 {
				l = append(l, edge(l[by.IntN(n)].ID, l[0].A, l[0].B))
			}
		}
		g := graph.Make(verts, l...)
		want(t, "it may be", graph.Check(g), api.OK)
		want(t, "by rising numbers", slices.IsSorted(g.Verts) && slices.IsSortedFunc(g.Edges, func(a, b api.Edge) int { return cmp.Compare(a.ID, b.ID) }), true)
		wantGraph(t, "made again", graph.Make(g.Verts, g.Edges...), g)
	}
}

// scribble writes all over an answer, its spare room too.
func scribble[T any](l []T, what T) {
	l = l[:cap(l)]
	for i := range l {
		l[i] = what
	}
}

// What is handed in isn't changed, spare room included; what is answered is new memory, each row of it.
func TestMemory(t *testing.T) {
	verts := row{1, 2, 3, 5, 5, 9, 9}
	l := edges{edge(1, 1, 2), edge(2, 2, 3), edge(4, 3, 1), edge(4, 3, 2), edge(9, 9, 9)}
	wrong := row{3, 2, 1, 2, 9}
	wrongEdges := edges{edge(4, 1, 2), edge(3, 2, 1), edge(4, 2, 1), edge(9, 9, 9)}
	keptVerts, keptEdges, keptWrong, keptWrongEdges := slices.Clone(verts), slices.Clone(l), slices.Clone(wrong), slices.Clone(wrongEdges)
	g := api.Graph{Verts: verts[:4], Edges: l[:3]}
	answers := []api.Graph{graph.Make(g.Verts, g.Edges...), graph.Make(wrong[:4], wrongEdges[:3]...), graph.Keep(g, func(api.Edge) bool { return true }), graph.Keep(g, func(x api.Edge) bool { return x.ID == 2 })}
	rows := append(graph.Parts(g), graph.Ends(g, 1), graph.Ends(g, 2))
	graph.Check(g)
	graph.Check(api.Graph{Verts: wrong[:4], Edges: wrongEdges[:3]})
	graph.Same(g, g)
	want(t, "numbers", graph.Vert(g, 3)+graph.Edge(g, 4)+graph.Alone(g), 5)
	for _, a := range answers {
		scribble(a.Verts, 77)
		scribble(a.Edges, edge(77, 77, 77))
	}
	for i, r := range rows {
		wanted := []row{{1, 2, 3}, {5}, {2, 9}, {3, 4}}[i]
		wantRow(t, "a row behind the others", r, wanted)
		scribble(r, 77)
	}
	wantRow(t, "vertices", verts, keptVerts)
	wantRow(t, "edges", l, keptEdges)
	wantRow(t, "wrong vertices", wrong, keptWrong)
	wantRow(t, "wrong edges", wrongEdges, keptWrongEdges)
	made := graph.Make(wrong[:4], wrongEdges[:3]...)
	scribble(wrong, 88)
	scribble(wrongEdges, edge(88, 88, 88))
	wantGraph(t, "what was made stays", made, api.Graph{Verts: row{1, 2, 3}, Edges: edges{edge(3, 2, 1), edge(4, 1, 2)}})
}
