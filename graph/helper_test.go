package graph_test

import (
	"math"
	"math/rand/v2"
	"slices"
	"testing"

	"parterre/api"
	"parterre/graph"
)

type (
	row   = []uint32
	edges = []api.Edge
)

const top = math.MaxUint32

// want: a test fails, if something is another thing than was wanted.
func want[T comparable](t *testing.T, what string, got, wanted T) {
	t.Helper()
	if got != wanted {
		t.Errorf("%s: %v, wanted %v", what, got, wanted)
	}
}

func wantRow[T comparable](t *testing.T, what string, got, wanted []T) {
	t.Helper()
	if !slices.Equal(got, wanted) {
		t.Errorf("%s: %v, wanted %v", what, got, wanted)
	}
}

func wantRows(t *testing.T, what string, got, wanted []row) {
	t.Helper()
	if !slices.EqualFunc(got, wanted, slices.Equal[row]) {
		t.Errorf("%s: %v, wanted %v", what, got, wanted)
	}
}

// wantGraph goes past Same, which is looked at itself.
func wantGraph(t *testing.T, what string, got, wanted api.Graph) {
	t.Helper()
	wantRow(t, what+": vertices", got.Verts, wanted.Verts)
	wantRow(t, what+": edges", got.Edges, wanted.Edges)
}

func edge(id, a, b uint32) api.Edge { return api.Edge{ID: id, A: a, B: b} }

// upTo is the numbers from 1 on.
func upTo(n int) row {
	var l row
	for i := range n {
		l = append(l, uint32(i+1))
	}
	return l
}

// path is n edges, each from a vertex to the next one, round and round from the last of so many to the first.
func path(n, verts int) edges {
	var l edges
	for i := range n {
		l = append(l, edge(uint32(i+1), uint32(i%verts+1), uint32((i+1)%verts+1)))
	}
	return l
}

// chance is a row of numbers that is the same each time.
func chance(seed uint64) *rand.Rand { return rand.New(rand.NewPCG(seed, 9)) }

// unlike is n numbers from 1 to most, no two alike, in any order.
func unlike(by *rand.Rand, n, most int) row {
	var l row
	for len(l) < n {
		if v := uint32(1 + by.IntN(most)); !slices.Contains(l, v) {
			l = append(l, v)
		}
	}
	return l
}

// some is vertices and edges of which a graph that may be can be made, in any order.
func some(by *rand.Rand, verts, links, most int) (row, edges) {
	l := unlike(by, verts, most)
	var all edges
	if verts < 2 {
		return l, nil
	}
	for _, id := range unlike(by, links, most) {
		a := by.IntN(verts)
		b := (a + 1 + by.IntN(verts-1)) % verts
		all = append(all, edge(id, l[a], l[b]))
	}
	return l, all
}

// graphs are graphs that may be: the small ones, those at the limits, and some of all sizes between.
func graphs() []api.Graph {
	l := []api.Graph{
		{}, {Verts: row{}, Edges: edges{}}, {Verts: row{1}}, {Verts: row{api.MaxID}}, {Verts: row{1, 2}},
		{Verts: row{1, 2}, Edges: edges{edge(1, 1, 2)}}, {Verts: row{1, 2}, Edges: edges{edge(api.MaxID, 2, 1)}},
		{Verts: row{1, 2, 3}, Edges: edges{edge(1, 1, 2)}}, {Verts: row{1, 2, 3}, Edges: edges{edge(1, 1, 3)}}, {Verts: row{1, 2, 3}, Edges: edges{edge(1, 3, 2)}},
		{Verts: row{4, 7}, Edges: edges{edge(2, 4, 7), edge(3, 7, 4), edge(9, 4, 7)}},
		{Verts: upTo(64)}, {Verts: upTo(64), Edges: path(63, 64)}, {Verts: upTo(64), Edges: path(160, 64)}, {Verts: upTo(2), Edges: path(160, 2)},
	}
	by := chance(1)
	for i := range 150 {
		verts, links := by.IntN(12), by.IntN(14)
		if i%5 == 0 {
			verts, links = by.IntN(65), by.IntN(161)
		}
		most := []int{160, 1000, api.MaxID}[i%3]
		v, e := some(by, verts, links, most)
		l = append(l, graph.Make(v, e...))
	}
	return l
}
