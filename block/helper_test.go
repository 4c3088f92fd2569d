package block_test

import (
	"math"
	"math/rand/v2"
	"slices"
	"testing"

	"parterre/api"
	"parterre/graph"
)

type (
	row   = []uint32
	edges = []api.Edge
)

const top = math.MaxUint32

// want: a test fails, if something is another thing than was wanted.
func want[T comparable](t *testing.T, what string, got, wanted T) {
	t.Helper()
	if got != wanted {
		t.Errorf("%s: %v, wanted %v", what, got, wanted)
	}
}

func wantRow[T comparable](t *testing.T, what string, got, wanted []T) {
	t.Helper()
	if !slices.Equal(got, wanted) {
		t.Errorf("%s: %v, wanted %v", what, got, wanted)
	}
}

func wantRows[T comparable](t *testing.T, what string, got, wanted [][]T) {
	t.Helper()
	if !slices.EqualFunc(got, wanted, slices.Equal[[]T]) {
		t.Errorf("%s: %v, wanted %v", what, got, wanted)
	}
}

func wantGraph(t *testing.T, what string, got, wanted api.Graph) {
	t.Helper()
	wantRow(t, what+": vertices", got.Verts, wanted.Verts)
	wantRow(t, what+": edges", got.Edges, wanted.Edges)
}

func edge(id, a, b uint32) api.Edge { return api.Edge{ID: id, A: a, B: b} }

// upTo is the numbers from 1 on.
func upTo(n int) row {
	var l row
	for i := range n {
		l = append(l, uint32(i+1))
	}
	return l
}

// along is edges from each of these vertices to the next one, numbered from that on.
func along(first uint32, l ...uint32) edges {
	var all edges
	for i := range len(l) - 1 {
		all = append(all, edge(first+uint32(i), l[i], l[i+1]))
	}
	return all
}

// of is the graph of edges and their ends, and of these vertices.
func of(verts row, l ...edges) api.Graph {
	verts = slices.Clone(verts)
	for _, x := range slices.Concat(l...) {
		verts = append(verts, x.A, x.B)
	}
	return graph.Make(verts, slices.Concat(l...)...)
}

// all is a graph of so many vertices with an edge between each two.
func all(n int) api.Graph {
	g := api.Graph{Verts: upTo(n)}
	for b := range n {
		for a := range b {
			g.Edges = append(g.Edges, edge(uint32(len(g.Edges)+1), uint32(a+1), uint32(b+1)))
		}
	}
	return g
}

// subset is the graph with those edges alone whose places are in a set.
func subset(g api.Graph, set int) api.Graph {
	less := api.Graph{Verts: g.Verts}
	for i, x := range g.Edges {
		if set>>i&1 == 1 {
			less.Edges = append(less.Edges, x)
		}
	}
	return less
}

// chance is a row of numbers that is the same each time.
func chance(seed uint64) *rand.Rand { return rand.New(rand.NewPCG(seed, 13)) }

// unlike is n numbers from 1 to most, no two alike, in any order.
func unlike(by *rand.Rand, n, most int) row {
	var l row
	for len(l) < n {
		if v := uint32(1 + by.IntN(most)); !slices.Contains(l, v) {
			l = append(l, v)
		}
	}
	return l
}

// some is a graph of so many vertices and edges; the ends of an edge are at most so far apart in a row of the vertices.
func some(by *rand.Rand, verts, links, apart, most int) api.Graph {
	l := unlike(by, verts, most)
	g := graph.Make(l)
	if verts < 2 {
		return g
	}
	var all edges
	for _, id := range unlike(by, links, most) {
		a := by.IntN(verts)
		b := (a + 1 + by.IntN(min(apart, verts-1))) % verts
		all = append(all, edge(id, l[a], l[b]))
	}
	by.Shuffle(len(all), func(i, j int) { all[i], all[j] = all[j], all[i] })
	for i, x := range all {
		if by.IntN(2) == 0 {
			all[i].A, all[i].B = x.B, x.A
		}
	}
	return graph.Make(l, all...)
}

// graphs are graphs that may be: small ones, those at the limits, and some of all sizes between.
func graphs() []api.Graph {
	ring64 := append(upTo(64), 1)
	l := []api.Graph{
		{}, {Verts: row{}, Edges: edges{}}, {Verts: row{1}}, {Verts: row{api.MaxID}}, {Verts: row{1, 2}}, {Verts: upTo(64)},
		of(nil, edges{edge(1, 1, 2)}), of(row{1, 2, 3}, edges{edge(api.MaxID, 3, 1)}), of(nil, edges{edge(2, 4, 7), edge(3, 7, 4), edge(9, 4, 7)}),
		of(nil, along(1, upTo(64)...)), of(nil, along(1, ring64...)), of(nil, along(1, ring64...), along(65, ring64...), along(129, upTo(33)...)),
		of(row{api.MaxID}, along(1, 1, api.MaxID, 1, api.MaxID, 1, 2)), all(4), all(7), all(18),
	}
	pair := of(nil, edges{edge(1, 3, 9)})
	for i := range uint32(159) {
		pair.Edges = append(pair.Edges, edge(i+2, 3+i%2*6, 9-i%2*6))
	}
	l = append(l, pair)
	by := chance(1)
	for i := range 240 {
		verts, links := by.IntN(12), by.IntN(14)
		if i%4 == 0 {
			verts, links = by.IntN(65), by.IntN(161)
		}
		l = append(l, some(by, verts, links, 1+by.IntN(6)*by.IntN(10), []int{160, 1000, api.MaxID}[i%3]))
	}
	return append(l, some(by, 64, 160, 2, 160), some(by, 64, 160, 63, api.MaxID), some(by, 64, 70, 63, api.MaxID))
}
