package graph

import "parterre/api"

// Parts is what hangs together: the vertices of each part, rising, the parts by their first ones.
func Parts(g api.Graph) [][]uint32 {
	near, seen := nearOf(g), map[uint32]int{}
	var parts [][]uint32
	for _, v := range g.Verts {
		part, is := seen[v]
		if !is {
			part = len(parts)
			parts = append(parts, nil)
			reach(v, part, near, seen)
		}
		parts[part] = append(parts[part], v)
	}
	return parts
}

// nearOf is, of each vertex that has edges, the vertices at their other ends.
func nearOf(g api.Graph) map[uint32][]uint32 {
	near := map[uint32][]uint32{}
	for _, x := range g.Edges {
		near[x.A] = append(near[x.A], x.B)
		near[x.B] = append(near[x.B], x.A)
	}
	return near
}

// reach tells of all vertices that can be reached from one that they are seen, and of which part they are.
func reach(from uint32, part int, near map[uint32][]uint32, seen map[uint32]int) {
	seen[from] = part
	for found := []uint32{from}; len(found) > 0; found = found[1:] {
		for _, v := range near[found[0]] {
			if _, is := seen[v]; !is {
				seen[v] = part
				found = append(found, v)
			}
		}
	}
}

// Alone is how many vertices have no edges.
func Alone(g api.Graph) int {
	near, alone := nearOf(g), 0
	for _, v := range g.Verts {
		if len(near[v]) == 0 {
			alone++
		}
	}
	return alone
}
