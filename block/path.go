package block

import (
	"slices"

	"parterre/api"
	"parterre/graph"
)

// Near is the vertices that have an edge with one, rising, each once.
func Near(g api.Graph, v uint32) []uint32 {
	return nearOf(g)[v]
}

// nearOf is, of each vertex that has edges, the near ones, rising, each once.
func nearOf(g api.Graph) map[uint32][]uint32 {
	near := map[uint32][]uint32{}
	for _, x := range g.Edges {
		near[x.A] = append(near[x.A], x.B)
		near[x.B] = append(near[x.B], x.A)
	}
	for v, l := range near {
		slices.Sort(l)
		near[v] = slices.Compact(l)
	}
	return near
}

// Path is the way of as few vertices as may be that is found first; none, where there is no way. Through is asked of each vertex once at most.
func Path(g api.Graph, from, to uint32, through func(v uint32) bool) []uint32 {
	if graph.Vert(g, from) < 0 || graph.Vert(g, to) < 0 {
		return nil
	}
	near, by := nearOf(g), map[uint32]uint32{from: from}
	for found := []uint32{from}; len(found) > 0; found = found[1:] {
		if found[0] == to {
			return wayTo(to, by)
		}
		for _, v := range near[found[0]] {
			if _, is := by[v]; is {
				continue
			}
			by[v] = found[0]
			if v == to || through == nil || through(v) {
				found = append(found, v)
			}
		}
	}
	return nil
}

// wayTo is the way to a vertex from the one that was found by itself.
func wayTo(to uint32, by map[uint32]uint32) []uint32 {
	way := []uint32{to}
	for v := to; by[v] != v; v = by[v] {
		way = append(way, by[v])
	}
	slices.Reverse(way)
	return way
}
