package block

import "parterre/api"

// forest is how each vertex that has edges hangs below one of its part.
type forest map[uint32]link

// link is an edge up from a vertex: the edge's place, whom it leads to, and how many such edges there are up to the top.
type link struct {
	by    int
	above uint32
	deep  int
}

func forestOf(g api.Graph) forest {
	at := map[uint32][]int{}
	for i, x := range g.Edges {
		at[x.A] = append(at[x.A], i)
		at[x.B] = append(at[x.B], i)
	}
	f := forest{}
	for _, x := range g.Edges {
		if _, is := f[x.A]; !is {
			f.grow(g, at, x.A)
		}
	}
	return f
}

// grow hangs all of a part below one of its vertices; at is the places of the edges at each.
func (f forest) grow(g api.Graph, at map[uint32][]int, top uint32) {
	f[top] = link{}
	for found := []uint32{top}; len(found) > 0; found = found[1:] {
		above := found[0]
		for _, i := range at[above] {
			v := g.Edges[i].A
			if v == above {
				v = g.Edges[i].B
			}
			if _, is := f[v]; !is {
				f[v] = link{by: i, above: above, deep: f[above].deep + 1}
				found = append(found, v)
			}
		}
	}
}

// ring is the places of the forest's edges between an edge's ends: of one of the forest just its own.
func (f forest) ring(x api.Edge) []int {
	var on []int
	for low, high := x.A, x.B; low != high; {
		if f[low].deep < f[high].deep {
			low, high = high, low
		}
		on = append(on, f[low].by)
		low = f[low].above
	}
	return on
}
