package block_test

import (
	"slices"
	"testing"

	"parterre/api"
	"parterre/block"
)

// not says no of these vertices.
func not(l ...uint32) func(uint32) bool {
	return func(v uint32) bool { return !slices.Contains(l, v) }
}

func never(uint32) bool { return false }

// P13.2: the way; ends that are one, that aren't there, that have no way; and who may be on it.
func TestPath(t *testing.T) {
	line := of(row{9}, along(1, 1, 2, 3, 4), along(7, 6, 7))
	four := of(nil, along(1, 1, 2, 4, 3, 1))
	six := of(nil, along(1, 1, 2, 3, 4, 5, 6, 1))
	wide := of(nil, along(1, 1, 9, 2, 8), along(4, 1, 3, 7, 8), along(7, 1, 4, 5, 6, 8))
	for _, c := range []struct {
		what     string
		g        api.Graph
		from, to uint32
		through  func(uint32) bool
		wanted   row
	}{
		{"one edge", line, 1, 2, nil, row{1, 2}},
		{"one edge, back", line, 2, 1, nil, row{2, 1}},
		{"one edge, no to all", line, 1, 2, never, row{1, 2}},
		{"two edges", line, 1, 3, nil, row{1, 2, 3}},
		{"two edges, no to all", line, 1, 3, never, nil},
		{"two edges, no to the ends", line, 1, 3, not(1, 3), row{1, 2, 3}},
		{"two edges, no to the one between", line, 1, 3, not(2), nil},
		{"two edges, no to another", line, 1, 3, not(4), row{1, 2, 3}},
		{"all of it", line, 4, 1, nil, row{4, 3, 2, 1}},
		{"all of it, no to the ends", line, 4, 1, not(4, 1), row{4, 3, 2, 1}},
		{"all of it, no to one", line, 4, 1, not(2), nil},
		{"to itself", line, 3, 3, nil, row{3}},
		{"to itself, no to all", line, 3, 3, never, row{3}},
		{"to itself, alone", line, 9, 9, nil, row{9}},
		{"to itself, alone, no to all", line, 9, 9, never, row{9}},
		{"another part", line, 1, 7, nil, nil},
		{"to one alone", line, 1, 9, nil, nil},
		{"from one alone", line, 9, 1, nil, nil},
		{"from none", line, 5, 1, nil, nil},
		{"to none", line, 1, 5, nil, nil},
		{"from 0", line, 0, 1, nil, nil},
		{"to 0", line, 1, 0, nil, nil},
		{"none to itself", line, 5, 5, nil, nil},
		{"0 to itself", line, 0, 0, nil, nil},
		{"the highest", line, top, top, nil, nil},
		{"none to itself, no to all", line, 5, 5, never, nil},
		{"of nothing", api.Graph{}, 1, 1, nil, nil},
		{"of nothing, 0", api.Graph{}, 0, 0, nil, nil},
		{"the lower of two", four, 1, 4, nil, row{1, 2, 4}},
		{"the lower of two, back", four, 4, 1, nil, row{4, 2, 1}},
		{"the other of two", four, 1, 4, not(2), row{1, 3, 4}},
		{"neither of two", four, 1, 4, not(2, 3), nil},
		{"across", four, 2, 3, nil, row{2, 1, 3}},
		{"half a ring", six, 1, 4, nil, row{1, 2, 3, 4}},
		{"half a ring, back", six, 4, 1, nil, row{4, 3, 2, 1}},
		{"the longer way", six, 1, 3, not(2), row{1, 6, 5, 4, 3}},
		{"the first one counts, not the last", wide, 1, 8, nil, row{1, 3, 7, 8}},
		{"back", wide, 8, 1, nil, row{8, 2, 9, 1}},
		{"past the first", wide, 1, 8, not(3), row{1, 9, 2, 8}},
		{"past the first's next", wide, 1, 8, not(7), row{1, 9, 2, 8}},
		{"past both", wide, 1, 8, not(7, 9), row{1, 4, 5, 6, 8}},
		{"past all", wide, 1, 8, not(7, 9, 5), nil},
	} {
		wantRow(t, c.what, block.Path(c.g, c.from, c.to, c.through), c.wanted)
	}
}

// ways is all ways from the last vertex of one to another vertex, no vertex twice.
func ways(g api.Graph, way row, to uint32, through func(uint32) bool) []row {
	last := way[len(way)-1]
	if last == to {
		return []row{slices.Clone(way)}
	}
	var l []row
	for _, x := range g.Edges {
		for _, v := range (row{x.A, x.B}) {
			if sameEnds(x, edge(0, last, v)) && !slices.Contains(way, v) && (v == to || through(v)) {
				l = append(l, ways(g, append(way[:len(way):len(way)], v), to, through)...)
			}
		}
	}
	return l
}

// least is the shortest way, and of those the one that is least, number by number: vertices as far from the beginning are found in the order of such ways.
func least(l []row) row {
	var best row
	for _, way := range l {
		if best == nil || len(way) < len(best) || len(way) == len(best) && slices.Compare(way, best) < 0 {
			best = way
		}
	}
	return best
}

// P13.2: all graphs of five vertices, between each two, through each set of the others.
func TestPathSmall(t *testing.T) {
	five := all(5)
	for set := range 1 << len(five.Edges) {
		g := subset(five, set)
		for ends := range uint32(25) {
			from, to := ends/5+1, ends%5+1
			open := uint32(set+int(ends)*7) % 32
			through := func(v uint32) bool { return open>>(v-1)&1 == 1 }
			wantRow(t, "path", block.Path(g, from, to, through), least(ways(g, row{from}, to, through)))
			if set%3 == 0 {
				wantRow(t, "path through all", block.Path(g, from, to, nil), least(ways(g, row{from}, to, not())))
			}
		}
	}
}

// behind is the way by how far each vertex is from its end: always on to the lowest one that is nearer.
func behind(g api.Graph, from, to uint32, through func(uint32) bool) row {
	far := map[uint32]int{to: 1}
	for range g.Verts {
		for _, x := range g.Edges {
			for _, s := range [][2]uint32{{x.A, x.B}, {x.B, x.A}} {
				v, u := s[0], s[1]
				if far[u] > 0 && (v == from || through(v)) && u != from && (far[v] == 0 || far[v] > far[u]+1) {
					far[v] = far[u] + 1
				}
			}
		}
	}
	if far[from] == 0 {
		return nil
	}
	way := row{from}
	for v := from; v != to; v = way[len(way)-1] {
		next := uint32(top)
		for _, x := range g.Edges {
			for _, u := range (row{x.A, x.B}) {
				if sameEnds(x, edge(0, v, u)) && far[u] == far[v]-1 && far[u] > 0 {
					next = min(next, u)
				}
			}
		}
		way = append(way, next)
	}
	return way
}

// P13.2: greater graphs, through some of their vertices.
func TestPathGreat(t *testing.T) {
	by := chance(4)
	for _, g := range graphs() {
		if len(g.Verts) == 0 {
			continue
		}
		for i := range 12 {
			from, to := g.Verts[by.IntN(len(g.Verts))], g.Verts[by.IntN(len(g.Verts))]
			shut := map[uint32]bool{}
			for _, v := range g.Verts {
				shut[v] = by.IntN(1+i) > 3
			}
			through := func(v uint32) bool { return !shut[v] }
			wantRow(t, "path", block.Path(g, from, to, through), behind(g, from, to, through))
			wantRow(t, "path through all", block.Path(g, from, to, nil), behind(g, from, to, not()))
		}
	}
}

// P13.2: through is asked of vertices of the graph alone, not of the ends.
func TestPathAsks(t *testing.T) {
	for _, g := range graphs() {
		for i, from := range g.Verts {
			to := g.Verts[len(g.Verts)-1-i]
			block.Path(g, from, to, func(v uint32) bool {
				if v == from || v == to || !slices.Contains(g.Verts, v) {
					t.Fatalf("asked of %d, from %d to %d", v, from, to)
				}
				return v%3 > 0
			})
		}
	}
}

// A path of 64 vertices in bundles.
func TestPathLong(t *testing.T) {
	l := upTo(64)
	g := of(nil, along(1, l...), along(64, l...), along(127, l[:35]...))
	wantRow(t, "there", block.Path(g, 1, 64, nil), l)
	want(t, "shut", len(block.Path(g, 1, 64, not(33))), 0)
	slices.Reverse(l)
	wantRow(t, "back", block.Path(g, 64, 1, nil), l)
}
