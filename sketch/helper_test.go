package sketch_test

import (
	"math"
	"math/rand/v2"
	"slices"
	"testing"

	"parterre/api"
)

type (
	row   = []uint32
	edges = []api.Edge
	steps = []api.Step
)

const top = math.MaxUint32

// want: a test fails, if something is another thing than was wanted.
func want[T comparable](t *testing.T, what string, got, wanted T) {
	t.Helper()
	if got != wanted {
		t.Errorf("%s: %v, wanted %v", what, got, wanted)
	}
}

func wantRow[T comparable](t *testing.T, what string, got, wanted []T) {
	t.Helper()
	if !slices.Equal(got, wanted) {
		t.Errorf("%s: %v, wanted %v", what, got, wanted)
	}
}

func wantMap(t *testing.T, what string, got, wanted api.Map) {
	t.Helper()
	wantRow(t, what+": vertices", got.Verts, wanted.Verts)
	wantRow(t, what+": edges", got.Edges, wanted.Edges)
	if !slices.EqualFunc(got.Rots, wanted.Rots, slices.Equal[row]) {
		t.Errorf("%s: turns %v, wanted %v", what, got.Rots, wanted.Rots)
	}
}

// wantNone: with an error there is an empty map.
func wantNone(t *testing.T, what string, m api.Map) {
	t.Helper()
	want(t, what+": an empty map", m.Verts == nil && m.Edges == nil && m.Rots == nil, true)
}

func edge(id, a, b uint32) api.Edge { return api.Edge{ID: id, A: a, B: b} }

// mapOf is a map told as it is, for what may not be, too.
func mapOf(verts row, l edges, turns ...row) api.Map {
	return api.Map{Graph: api.Graph{Verts: verts, Edges: l}, Rots: turns}
}

// ring is three vertices and three edges round them.
func ring() api.Map {
	return mapOf(row{1, 2, 3}, edges{edge(1, 1, 2), edge(2, 2, 3), edge(3, 3, 1)}, row{2, 7}, row{3, 4}, row{5, 6})
}

// alone is so many vertices without edges, numbered from 1 on.
func alone(n int) api.Map {
	m := api.Map{Rots: make([]row, n)}
	for i := range n {
		m.Verts = append(m.Verts, uint32(i+1))
	}
	return m
}

// thick is a path of vertices numbered from 1 on, and bundles of edges along it, in turn one edge more to each.
func thick(verts, links int) api.Map {
	m := alone(verts)
	for i := range links {
		a := uint32(i%(verts-1) + 1)
		m.Edges = append(m.Edges, edge(uint32(i+1), a, a+1))
	}
	for i, v := range m.Verts {
		var turn row
		for _, x := range m.Edges {
			if x.A == v {
				turn = append(turn, 2*x.ID)
			}
		}
		for _, x := range slices.Backward(m.Edges) {
			if x.B == v {
				turn = append(turn, 2*x.ID+1)
			}
		}
		m.Rots[i] = normal(turn)
	}
	return m
}

// normal is the turn from its least dart on.
func normal(l row) row {
	first := 0
	for i, d := range l {
		if d < l[first] {
			first = i
		}
	}
	return slices.Concat(l[min(first, len(l)):], l[:min(first, len(l))])
}

// chance is a row of numbers that is the same each time.
func chance(seed uint64) *rand.Rand { return rand.New(rand.NewPCG(seed, 11)) }

// fill makes all things of a row another one, spare room included.
func fill[T any](l []T, with T) {
	l = l[:cap(l)]
	for i := range l {
		l[i] = with
	}
}

// scribble makes all of a map another one.
func scribble(m api.Map) {
	for _, turn := range m.Rots {
		fill(turn, 99)
	}
	fill(m.Rots, row{98})
	fill(m.Verts, 97)
	fill(m.Edges, edge(96, 95, 94))
}

// roomy is the ring with spare room in all of its rows, and whether it is still as it was.
func roomy() (api.Map, func(*testing.T)) {
	verts, l := row{1, 2, 3, 8, 8}, append(ring().Edges, edge(8, 8, 8))
	rows := []row{{2, 7, 9}, {3, 4, 8}, {5, 6, 8}, {8}, {8, 8}}
	turns := []row{rows[0][:2], rows[1][:2], rows[2][:2], rows[3], rows[4]}
	m := mapOf(verts[:3], l[:3], turns[:3]...)
	return m, func(t *testing.T) {
		t.Helper()
		wantMap(t, "what was handed in", m, ring())
		wantRow(t, "vertices", verts, row{1, 2, 3, 8, 8})
		wantRow(t, "edges", l, append(ring().Edges, edge(8, 8, 8)))
		want(t, "rows", slices.EqualFunc(rows, []row{{2, 7, 9}, {3, 4, 8}, {5, 6, 8}, {8}, {8, 8}}, slices.Equal[row]), true)
		want(t, "turns", slices.EqualFunc(turns, []row{{2, 7}, {3, 4}, {5, 6}, {8}, {8, 8}}, slices.Equal[row]), true)
	}
}
