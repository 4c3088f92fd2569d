package plane_test

import (
	"math"
	"math/rand/v2"
	"slices"
	"testing"

	"parterre/api"
	"parterre/graph"
	"parterre/plane"
	"parterre/rot"
)

type (
	row   = []uint32
	edges = []api.Edge
)

const top = math.MaxUint32

// want: a test fails, if something is another thing than was wanted.
func want[T comparable](t *testing.T, what string, got, wanted T) {
	t.Helper()
	if got != wanted {
		t.Errorf("%s: %v, wanted %v", what, got, wanted)
	}
}

func wantRow[T comparable](t *testing.T, what string, got, wanted []T) {
	t.Helper()
	if !slices.Equal(got, wanted) {
		t.Errorf("%s: %v, wanted %v", what, got, wanted)
	}
}

// wantDrawn: the map is of just the graph, lies in the plane, and is the same when it is asked for again.
func wantDrawn(t *testing.T, what string, g api.Graph) {
	t.Helper()
	m, ok := plane.Embed(g)
	if e := rot.Right(m); !ok || e != api.OK || !graph.Same(m.Graph, g) {
		t.Fatalf("%s: %v: %v, %v, %v", what, g, m, ok, e)
	}
	again, _ := plane.Embed(g)
	if !rot.Same(m, again) || !plane.Planar(g) {
		t.Fatalf("%s: %v: %v, and asked again %v", what, g, m, again)
	}
}

// wantNone: there is no map.
func wantNone(t *testing.T, what string, g api.Graph) {
	t.Helper()
	want(t, what+": it may be", graph.Check(g), api.OK)
	m, ok := plane.Embed(g)
	if ok || m.Verts != nil || m.Edges != nil || m.Rots != nil || plane.Planar(g) {
		t.Fatalf("%s: %v: %v, %v", what, g, m, ok)
	}
}

func edge(id, a, b uint32) api.Edge { return api.Edge{ID: id, A: a, B: b} }

// upTo is the numbers from 1 on.
func upTo(n int) row {
	var l row
	for i := range n {
		l = append(l, uint32(i+1))
	}
	return l
}

// along is edges from each of these vertices to the next one, numbered from that on.
func along(first uint32, l ...uint32) edges {
	var all edges
	for i := range len(l) - 1 {
		all = append(all, edge(first+uint32(i), l[i], l[i+1]))
	}
	return all
}

// of is the graph of edges and their ends, and of these vertices.
func of(verts row, l ...edges) api.Graph {
	verts = slices.Clone(verts)
	for _, x := range slices.Concat(l...) {
		verts = append(verts, x.A, x.B)
	}
	return graph.Make(verts, slices.Concat(l...)...)
}

// linked is the graph of these pairs of vertices, its edges numbered from 1 on.
func linked(pairs ...[2]int) api.Graph {
	var l edges
	for i, p := range pairs {
		l = append(l, edge(uint32(i+1), uint32(p[0]), uint32(p[1])))
	}
	return of(nil, l)
}

// all is a graph of so many vertices with an edge between each two.
func all(n int) api.Graph {
	var pairs [][2]int
	for b := range n {
		for a := range b {
			pairs = append(pairs, [2]int{a + 1, b + 1})
		}
	}
	return of(upTo(n), linked(pairs...).Edges)
}

// sides is so many vertices and so many, all of the ones with all of the others.
func sides(a, b int) api.Graph {
	var pairs [][2]int
	for i := range a * b {
		pairs = append(pairs, [2]int{i/b + 1, a + 1 + i%b})
	}
	return linked(pairs...)
}

// bundle is two vertices, and so many edges between them, to and fro.
func bundle(n int) api.Graph {
	g := of(row{1, 2})
	for i := range uint32(n) {
		g.Edges = append(g.Edges, edge(i+1, 1+i%2, 2-i%2))
	}
	return g
}

// moved is a graph with all its numbers moved on.
func moved(g api.Graph, verts, edges uint32) api.Graph {
	var h api.Graph
	for _, v := range g.Verts {
		h.Verts = append(h.Verts, v+verts)
	}
	for _, x := range g.Edges {
		h.Edges = append(h.Edges, edge(x.ID+edges, x.A+verts, x.B+verts))
	}
	return h
}

// chained is graphs whose vertices are numbered from 1 on, one behind the other: the first so many of each are the last ones of the one ahead.
func chained(together int, l ...api.Graph) api.Graph {
	var g api.Graph
	for _, h := range l {
		if len(g.Verts) > 0 {
			h = moved(h, g.Verts[len(g.Verts)-1]-uint32(together), g.Edges[len(g.Edges)-1].ID)
		}
		g = of(slices.Concat(g.Verts, h.Verts), g.Edges, h.Edges)
	}
	return g
}

// laid is a graph with so many vertices laid on an edge.
func laid(g api.Graph, id uint32, n int) api.Graph {
	x := g.Edges[graph.Edge(g, id)]
	last := g.Verts[len(g.Verts)-1]
	path := row{x.A}
	for i := range uint32(n) {
		path = append(path, last+1+i)
	}
	path = append(path, x.B)
	rest := less(g, id)
	return of(g.Verts, rest.Edges, along(id, path[:2]...), along(g.Edges[len(g.Edges)-1].ID+1, path[1:]...))
}

// thick is a graph with so many edges more beside one.
func thick(g api.Graph, id uint32, n int) api.Graph {
	x := g.Edges[graph.Edge(g, id)]
	l := slices.Clone(g.Edges)
	for range n {
		x = edge(l[len(l)-1].ID+1, x.B, x.A)
		l = append(l, x)
	}
	return graph.Make(g.Verts, l...)
}

// less is a graph without an edge.
func less(g api.Graph, id uint32) api.Graph {
	return graph.Keep(g, func(x api.Edge) bool { return x.ID != id })
}

// more is a graph with edges between these vertices, too.
func more(g api.Graph, pairs ...[2]int) api.Graph {
	first := uint32(0)
	if len(g.Edges) > 0 {
		first = g.Edges[len(g.Edges)-1].ID
	}
	return of(g.Verts, g.Edges, moved(linked(pairs...), 0, first).Edges)
}

// subset is the graph with those edges alone whose places are in a set.
func subset(g api.Graph, set int) api.Graph {
	some := api.Graph{Verts: g.Verts}
	for i, x := range g.Edges {
		if set>>i&1 == 1 {
			some.Edges = append(some.Edges, x)
		}
	}
	return some
}

// chance is a row of numbers that is the same each time.
func chance(seed uint64) *rand.Rand { return rand.New(rand.NewPCG(seed, 14)) }

// unlike is n numbers from 1 to most, no two alike, in any order.
func unlike(by *rand.Rand, n, most int) row {
	var l row
	for len(l) < n {
		if v := uint32(1 + by.IntN(most)); !slices.Contains(l, v) {
			l = append(l, v)
		}
	}
	return l
}

// renamed is a graph with other numbers in another order, some edges with their ends turned about.
func renamed(by *rand.Rand, g api.Graph, most int) api.Graph {
	verts, links := unlike(by, len(g.Verts), most), unlike(by, len(g.Edges), most)
	name := map[uint32]uint32{}
	for i, v := range g.Verts {
		name[v] = verts[i]
	}
	var l edges
	for i, x := range g.Edges {
		y := edge(links[i], name[x.A], name[x.B])
		if by.IntN(2) == 0 {
			y.A, y.B = y.B, y.A
		}
		l = append(l, y)
	}
	return graph.Make(verts, l...)
}

// grown is a graph that can be drawn, as it was: from an edge on path after path across a face, or hung into one. Vertices that none of them took are alone.
func grown(by *rand.Rand, verts, links int) api.Graph {
	faces := []row{{1, 2}}
	l, last := edges{edge(1, 1, 2)}, uint32(2)
	for range 4 * links {
		at := by.IntN(len(faces))
		turned := by.IntN(len(faces[at]))
		ring := slices.Concat(faces[at][turned:], faces[at][:turned])
		to := by.IntN(len(ring))
		var inner row
		for range min(by.IntN(4), verts-int(last)) {
			inner = append(inner, last+1+uint32(len(inner)))
		}
		back := slices.Clone(inner)
		slices.Reverse(back)
		if n := len(inner); n > 0 && by.IntN(4) == 0 && len(l)+n <= links {
			l = append(l, along(uint32(len(l)+1), slices.Concat(ring[:1], inner)...)...)
			faces[at] = slices.Concat(ring[:1], inner, back[1:], ring)
			last += uint32(n)
		} else if (n > 0 || ring[0] != ring[to]) && len(l)+n+1 <= links {
			l = append(l, along(uint32(len(l)+1), slices.Concat(ring[:1], inner, ring[to:to+1])...)...)
			faces[at] = slices.Concat(ring[:to+1], back)
			faces = append(faces, slices.Concat(ring[to:], ring[:1], inner))
			last += uint32(n)
		}
	}
	return of(upTo(verts), l)
}
