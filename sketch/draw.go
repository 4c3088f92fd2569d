package sketch

import (
	"slices"

	"parterre/api"
	"parterre/dart"
	"parterre/graph"
	"parterre/rot"
)

// draw is the map behind a step that can be done.
func draw(m api.Map, s api.Step) api.Map {
	turns := turnsOf(m)
	switch s.Kind {
	case api.AddVertex:
		return rot.Of(graph.Make(append(slices.Clone(m.Verts), s.ID), m.Edges...), turns)
	case api.DropVertex:
		gone := func(v uint32) bool { return v == s.ID }
		return rot.Of(graph.Make(slices.DeleteFunc(slices.Clone(m.Verts), gone), m.Edges...), turns)
	case api.AddEdge:
		turns[s.A] = dart.Insert(turns[s.A], s.PA, dart.Of(s.ID, 0))
		turns[s.B] = dart.Insert(turns[s.B], s.PB, dart.Of(s.ID, 1))
		x := api.Edge{ID: s.ID, A: s.A, B: s.B}
		return rot.Of(graph.Make(m.Verts, append(slices.Clone(m.Edges), x)...), turns)
	}
	return rot.Keep(m, func(x api.Edge) bool { return x.ID != s.ID })
}

// about is the step that turns one about that can be done to the map.
func about(m api.Map, s api.Step) api.Step {
	switch s.Kind {
	case api.AddVertex:
		return NoVertex(s.ID)
	case api.DropVertex:
		return Vertex(s.ID)
	case api.AddEdge:
		return NoLink(s.ID)
	}
	x := m.Edges[graph.Edge(m.Graph, s.ID)]
	return Link(x, ahead(m, dart.Of(x.ID, 0)), ahead(m, dart.Of(x.ID, 1)))
}

// ahead is the dart behind which one stands; 0, where it stands alone.
func ahead(m api.Map, d uint32) uint32 {
	if p := dart.Prev(rot.Turn(m, d), d); p != d {
		return p
	}
	return 0
}

// turnsOf is what stands round each vertex; a map that may not be can have too few turns for all.
func turnsOf(m api.Map) map[uint32][]uint32 {
	turns := map[uint32][]uint32{}
	for i := range min(len(m.Verts), len(m.Rots)) {
		turns[m.Verts[i]] = m.Rots[i]
	}
	return turns
}
