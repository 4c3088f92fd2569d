package graph_test

import (
	"slices"
	"testing"

	"parterre/api"
	"parterre/graph"
)

// P9.1: each error by itself, and at its edge.
func TestCheck(t *testing.T) {
	for _, c := range []struct {
		what   string
		verts  row
		edges  edges
		wanted api.Errno
	}{
		{"nothing", nil, nil, api.OK},
		{"nothing at all", row{}, edges{}, api.OK},
		{"one vertex", row{1}, nil, api.OK},
		{"the last vertex", row{api.MaxID}, nil, api.OK},
		{"the first and the last", row{1, api.MaxID}, nil, api.OK},
		{"vertex 0", row{0}, nil, api.ErrArg},
		{"vertex 0 of two", row{0, 1}, nil, api.ErrArg},
		{"vertex 0 behind one", row{1, 0}, nil, api.ErrArg},
		{"a vertex too high", row{api.MaxID + 1}, nil, api.ErrArg},
		{"the second too high", row{1, api.MaxID + 1}, nil, api.ErrArg},
		{"the highest", row{top}, nil, api.ErrArg},
		{"one twice", row{1, 1}, nil, api.ErrOrder},
		{"the last twice", row{api.MaxID, api.MaxID}, nil, api.ErrOrder},
		{"falling", row{2, 1}, nil, api.ErrOrder},
		{"falling at the end", row{1, 5, 4}, nil, api.ErrOrder},
		{"once more, further on", row{1, 2, 1}, nil, api.ErrOrder},
		{"an edge", row{1, 2}, edges{edge(1, 1, 2)}, api.OK},
		{"an edge the other way", row{1, 2}, edges{edge(1, 2, 1)}, api.OK},
		{"the last edge", row{1, api.MaxID}, edges{edge(api.MaxID, 1, api.MaxID)}, api.OK},
		{"two of the same ends", row{1, 2}, edges{edge(1, 1, 2), edge(2, 1, 2)}, api.OK},
		{"two to and fro", row{1, 2}, edges{edge(1, 1, 2), edge(2, 2, 1)}, api.OK},
		{"edge 0", row{1, 2}, edges{edge(0, 1, 2)}, api.ErrArg},
		{"edge 0 behind one", row{1, 2}, edges{edge(1, 1, 2), edge(0, 1, 2)}, api.ErrArg},
		{"an edge too high", row{1, 2}, edges{edge(api.MaxID+1, 1, 2)}, api.ErrArg},
		{"the highest edge", row{1, 2}, edges{edge(top, 1, 2)}, api.ErrArg},
		{"an edge twice", row{1, 2}, edges{edge(1, 1, 2), edge(1, 1, 2)}, api.ErrOrder},
		{"a number twice", row{1, 2, 3}, edges{edge(1, 1, 2), edge(1, 2, 3)}, api.ErrOrder},
		{"edges falling", row{1, 2}, edges{edge(2, 1, 2), edge(1, 1, 2)}, api.ErrOrder},
		{"an edge below the last vertex", row{1, 9}, edges{edge(3, 1, 9)}, api.OK},
		{"a loop", row{1, 2}, edges{edge(1, 2, 2)}, api.ErrLoop},
		{"a loop at nothing", row{1, 2}, edges{edge(1, 3, 3)}, api.ErrLoop},
		{"a loop at 0", row{1, 2}, edges{edge(1, 0, 0)}, api.ErrLoop},
		{"a loop, no vertex", nil, edges{edge(1, 1, 1)}, api.ErrLoop},
		{"no vertex at A", row{1, 2}, edges{edge(1, 3, 2)}, api.ErrEnd},
		{"no vertex at B", row{1, 2}, edges{edge(1, 2, 3)}, api.ErrEnd},
		{"no vertex at both", row{1, 2}, edges{edge(1, 3, 4)}, api.ErrEnd},
		{"0 at A", row{1, 2}, edges{edge(1, 0, 2)}, api.ErrEnd},
		{"0 at B", row{1, 2}, edges{edge(1, 2, 0)}, api.ErrEnd},
		{"the highest at B", row{1, 2}, edges{edge(1, 2, top)}, api.ErrEnd},
		{"an end between two", row{1, 3}, edges{edge(1, 1, 2)}, api.ErrEnd},
		{"an end ahead of all", row{2, 3}, edges{edge(1, 1, 2)}, api.ErrEnd},
		{"ends, no vertex", nil, edges{edge(1, 1, 2)}, api.ErrEnd},
	} {
		want(t, c.what, graph.Check(api.Graph{Verts: c.verts, Edges: c.edges}), c.wanted)
	}
}

// P9.1: of several faults the one of the first place, and of one place the one that is named first.
func TestCheckOrder(t *testing.T) {
	for _, c := range []struct {
		what   string
		verts  row
		edges  edges
		wanted api.Errno
	}{
		{"a falling vertex ahead of a 0", row{2, 1, 0}, nil, api.ErrOrder},
		{"a 0 ahead of a falling vertex", row{0, 2, 1}, nil, api.ErrArg},
		{"too high, and the one behind it falls", row{api.MaxID + 1, 1}, nil, api.ErrArg},
		{"a 0 that falls", row{5, 0}, nil, api.ErrArg},
		{"a vertex falls, edge 0", row{2, 1}, edges{edge(0, 1, 2)}, api.ErrOrder},
		{"a vertex falls, a loop", row{2, 1}, edges{edge(1, 1, 1)}, api.ErrOrder},
		{"the last vertex, edges of all faults", row{1, 2, 0}, edges{edge(0, 9, 9), edge(0, 1, 1), edge(1, 1, 8)}, api.ErrArg},
		{"edge 0, a loop at nothing", row{1}, edges{edge(0, 9, 9)}, api.ErrArg},
		{"edge 0, an end at nothing", row{1}, edges{edge(0, 1, 9)}, api.ErrArg},
		{"a 0 behind an edge, that falls", row{1, 2}, edges{edge(5, 1, 2), edge(0, 1, 1)}, api.ErrArg},
		{"an edge falls, a loop", row{1, 2}, edges{edge(5, 1, 2), edge(4, 1, 1)}, api.ErrOrder},
		{"an edge falls, an end at nothing", row{1, 2}, edges{edge(5, 1, 2), edge(5, 1, 3)}, api.ErrOrder},
		{"a loop, edge 0 behind it", row{1, 2}, edges{edge(5, 1, 1), edge(0, 1, 2)}, api.ErrLoop},
		{"a loop, one that falls behind it", row{1, 2}, edges{edge(5, 1, 1), edge(4, 1, 2)}, api.ErrLoop},
		{"an end at nothing, edge 0 behind it", row{1, 2}, edges{edge(5, 1, 3), edge(0, 1, 2)}, api.ErrEnd},
		{"an end at nothing, a loop behind it", row{1, 2}, edges{edge(5, 1, 3), edge(6, 1, 1)}, api.ErrEnd},
		{"an end at nothing, one that falls behind it", row{1, 2}, edges{edge(5, 1, 3), edge(4, 1, 2)}, api.ErrEnd},
	} {
		want(t, c.what, graph.Check(api.Graph{Verts: c.verts, Edges: c.edges}), c.wanted)
	}
}

// P9.1: 64 vertices and 160 edges; one more of either comes ahead of all.
func TestCheckMany(t *testing.T) {
	for _, c := range []struct {
		what   string
		verts  row
		edges  edges
		wanted api.Errno
	}{
		{"64", upTo(64), nil, api.OK},
		{"65", upTo(65), nil, api.ErrMany},
		{"64, 160", upTo(64), path(160, 64), api.OK},
		{"65, 160", upTo(65), path(160, 64), api.ErrMany},
		{"64, 161", upTo(64), path(161, 64), api.ErrMany},
		{"65, 161", upTo(65), path(161, 64), api.ErrMany},
		{"2, 160", upTo(2), path(160, 2), api.OK},
		{"2, 161", upTo(2), path(161, 2), api.ErrMany},
		{"65 wrong ones", make(row, 65), nil, api.ErrMany},
		{"64 wrong ones", make(row, 64), nil, api.ErrArg},
		{"161 wrong ones", row{2, 1}, make(edges, 161), api.ErrMany},
		{"160 wrong ones", row{2, 1}, make(edges, 160), api.ErrOrder},
		{"161 at nothing", nil, path(161, 64), api.ErrMany},
		{"160 at nothing", nil, path(160, 64), api.ErrEnd},
		{"very many", make(row, 1<<20), make(edges, 1<<20), api.ErrMany},
	} {
		want(t, c.what, graph.Check(api.Graph{Verts: c.verts, Edges: c.edges}), c.wanted)
	}
}

// fault is an error, with what the errors come in the order of.
type fault struct {
	stage, place, rank int
	e                  api.Errno
}

// faults is all that is wrong in a graph of few things, each looked for by itself.
func faults(g api.Graph) []fault {
	var l []fault
	number := func(stage, i int, n, ahead uint32) {
		if n == 0 || n > 1048576 {
			l = append(l, fault{stage, i, 0, api.ErrArg})
		}
		if i > 0 && ahead >= n {
			l = append(l, fault{stage, i, 1, api.ErrOrder})
		}
	}
	for i, v := range g.Verts {
		number(1, i, v, g.Verts[max(i-1, 0)])
	}
	for i, x := range g.Edges {
		number(2, i, x.ID, g.Edges[max(i-1, 0)].ID)
		if x.A == x.B {
			l = append(l, fault{2, i, 2, api.ErrLoop})
		}
		if !slices.Contains(g.Verts, x.A) || !slices.Contains(g.Verts, x.B) {
			l = append(l, fault{2, i, 3, api.ErrEnd})
		}
	}
	return l
}

// first is the error that comes ahead of all others.
func first(l []fault) api.Errno {
	least := fault{stage: 9}
	for _, f := range l {
		if f.stage < least.stage || f.stage == least.stage && (f.place < least.place || f.place == least.place && f.rank < least.rank) {
			least = f
		}
	}
	return least.e
}

// few is all rows of up to so many of these.
func few[T any](most int, of ...T) [][]T {
	all, last := [][]T{nil}, [][]T{nil}
	for range most {
		var longer [][]T
		for _, l := range last {
			for _, d := range of {
				longer = append(longer, append(l[:len(l):len(l)], d))
			}
		}
		all, last = append(all, longer...), longer
	}
	return all
}

// P9.1: all graphs of up to three vertices, or two edges, of some numbers.
func TestCheckSmall(t *testing.T) {
	var of edges
	for _, id := range (row{0, 1, 2, api.MaxID, api.MaxID + 1}) {
		for _, ends := range few(2, uint32(0), 1, 2, 5) {
			if len(ends) == 2 {
				of = append(of, edge(id, ends[0], ends[1]))
			}
		}
	}
	check := func(g api.Graph) {
		if got, wanted := graph.Check(g), first(faults(g)); got != wanted {
			t.Fatalf("%v: %v, wanted %v", g, got, wanted)
		}
	}
	for _, l := range few(2, of...) {
		for _, verts := range []row{nil, {1}, {1, 2}, {1, 2, 5}, {2, 5}, {0, 1, 2}, {2, 1}, {1, 2, 2}, {1, api.MaxID + 1}} {
			check(api.Graph{Verts: verts, Edges: l})
		}
	}
	for _, verts := range few(3, uint32(0), 1, 2, 5, api.MaxID, api.MaxID+1, top) {
		for _, l := range few(1, of...) {
			check(api.Graph{Verts: verts, Edges: l})
		}
	}
}

// P9.1: greater graphs that may be, with some faults.
func TestCheckFaults(t *testing.T) {
	by := chance(2)
	numbers := row{0, 1, 2, 3, 4, 5, api.MaxID - 1, api.MaxID, api.MaxID + 1, top}
	for range 20000 {
		verts, l := some(by, by.IntN(64), by.IntN(20), []int{200, api.MaxID}[by.IntN(2)])
		g := graph.Make(verts, l...)
		for range by.IntN(4) {
			n := numbers[by.IntN(len(numbers))]
			if i := by.IntN(len(g.Verts) + 1); i < len(g.Verts) && by.IntN(2) == 0 {
				g.Verts[i] = n
			}
			if i := by.IntN(len(g.Edges) + 1); i < len(g.Edges) {
				x := &g.Edges[i]
				*[]*uint32{&x.ID, &x.A, &x.B}[by.IntN(3)] = n
				if by.IntN(4) == 0 {
					x.A = x.B
				}
			}
		}
		if got, wanted := graph.Check(g), first(faults(g)); got != wanted {
			t.Fatalf("%v: %v, wanted %v", g, got, wanted)
		}
	}
}
